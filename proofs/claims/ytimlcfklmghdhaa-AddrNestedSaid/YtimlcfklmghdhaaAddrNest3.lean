/-
  The walks of AddrNested, part 3 of 9: for prefix values and an address in the case that each theorem's premises name the law returns true.
-/
import Derived.Test.YtimlcfklmghdhaaAddrNestK
import Derived.BigQuiet
import Derived.Deep.QuietTactic
namespace Go.Proofs.Ytimlcfklmghdhaa
open Go.RowKit

set_option maxRecDepth 100000 in
set_option maxHeartbeats 2000000 in
theorem nest_1111_01 {p a : Nat} (hp : Fits p) (ha : Fits a) (n : Int) (C1 : coversS p n p n = true) (HP : hasS p n a = true) (HO : halfOk p n = true) (HL : hasS p (n + 1) a = false) (HR : hasS (highA p n) (n + 1) a = true) (w : World) : Calls Try.prog 7 #[Pv p n, Pv p n, A a] w (Gives (.bool true) w) := by
  have hq := hp
  have M1 : meetsS p n p n = true := by unfold meetsS; rw [C1]; rfl
  obtain ⟨G1, G2, G3, G4, G5, G6, G7, _⟩ := halves_all HO
  have ⟨nb0, nb1, nb2⟩ := half_facts HO
  have fh : Fits (highA p n) := by unfold highA; rw [if_pos HO]; exact fits_high hp nb2 (by omega)
  clear nb2
  generalize hH : highA p n = h at *
  go_enter Try.func7, Try.ntmps7
  go_wp2_with fail
  refine (awake_any _).mono ?_
  rintro e w1 ⟨rfl, hb1⟩
  have HH0 : HeldN w p n p n a w1 := HeldN.step2 hb1 (heldN_new w p n p n a _ _)
  obtain ⟨_, ⟨a0, a1, a2, a3, a4, a5, a6⟩, ⟨b0, b1, b2, b3, b4, b5, b6⟩, c0, c1, c2⟩ := id HH0
  go_wp2_with fail
  refine wp_region_quiet (C := HeldN w p n p n a) (by kernel_rfl) (by kernel_rfl) (HeldN.drew HH0) ?_
  refine wpQuiet_step (fun K hK => ?_)
  go_simp
  refine ⟨Pv p n, fun W hW => ?_, hK _ ?_⟩
  · (obtain ⟨_, ⟨u0, u1, u2, _⟩, ⟨v0, v1, v2, _⟩, _⟩ := hW; simp [go_sem, u0, u1, u2])
  clear hK K
  refine wpQuiet_step (fun K hK => ?_)
  go_simp
  refine ⟨Pv p n, fun W hW => ?_, hK _ ?_⟩
  · (obtain ⟨_, ⟨u0, u1, u2, _⟩, ⟨v0, v1, v2, _⟩, _⟩ := hW; simp [go_sem, v0, v1, v2])
  clear hK K
  refine wpQuiet_step (fun K hK => ?_)
  go_simp
  refine ⟨.bool true, fun W hW => ?_, hK _ ?_⟩
  · exact (meets_any hp hq n n W).mono fun e w2 ⟨he, hb⟩ => ⟨by rw [he, M1], HeldN.step2 hb hW⟩
  clear hK K
  refine wpQuiet_step (fun K hK => ?_)
  go_simp
  refine ⟨Pv p n, fun W hW => ?_, hK _ ?_⟩
  · (obtain ⟨_, ⟨u0, u1, u2, _⟩, ⟨v0, v1, v2, _⟩, _⟩ := hW; simp [go_sem, u0, u1, u2])
  clear hK K
  refine wpQuiet_step (fun K hK => ?_)
  go_simp
  refine ⟨Pv p n, fun W hW => ?_, hK _ ?_⟩
  · (obtain ⟨_, ⟨u0, u1, u2, _⟩, ⟨v0, v1, v2, _⟩, _⟩ := hW; simp [go_sem, v0, v1, v2])
  clear hK K
  refine wpQuiet_step (fun K hK => ?_)
  go_simp
  refine ⟨.bool true, fun W hW => ?_, hK _ ?_⟩
  · exact (covers_any (p := p) hq n n W).mono fun e w2 ⟨he, hb⟩ => ⟨by rw [he, C1], HeldN.step2 hb hW⟩
  clear hK K
  refine wpQuiet_step (fun K hK => ?_)
  go_simp
  refine ⟨_, fun _ _ => rfl, hK _ ?_⟩
  clear hK K
  refine wpQuiet_step (fun K hK => ?_)
  go_simp
  refine hK _ ?_
  clear hK K
  refine wpQuiet_step (fun K hK => ?_)
  go_simp
  refine hK _ ?_
  clear hK K
  refine wpQuiet_step (fun K hK => ?_)
  go_simp
  refine hK _ ?_
  clear hK K
  refine wpQuiet_step (fun K hK => ?_)
  go_simp
  refine ⟨_, fun _ _ => rfl, hK _ ?_⟩
  clear hK K
  refine wpQuiet_step (fun K hK => ?_)
  go_simp
  refine ⟨_, fun _ _ => rfl, hK _ ?_⟩
  clear hK K
  refine wpQuiet_step (fun K hK => ?_)
  go_simp
  refine ⟨_, fun _ _ => rfl, hK _ ?_⟩
  clear hK K
  refine wpQuiet_step (fun K hK => ?_)
  go_simp
  refine ⟨Pv p n, fun W hW => ?_, hK _ ?_⟩
  · (obtain ⟨_, ⟨u0, u1, u2, _⟩, ⟨v0, v1, v2, _⟩, _⟩ := hW; simp [go_sem, u0, u1, u2])
  clear hK K
  refine wpQuiet_step (fun K hK => ?_)
  go_simp
  refine ⟨Pv p n, fun W hW => ?_, hK _ ?_⟩
  · (obtain ⟨_, ⟨u0, u1, u2, _⟩, ⟨v0, v1, v2, _⟩, _⟩ := hW; simp [go_sem, v0, v1, v2])
  clear hK K
  refine wpQuiet_step (fun K hK => ?_)
  go_simp
  refine ⟨.bool true, fun W hW => ?_, hK _ ?_⟩
  · exact (meets_any hp hq n n W).mono fun e w2 ⟨he, hb⟩ => ⟨by rw [he, M1], HeldN.step2 hb hW⟩
  clear hK K
  refine wpQuiet_step (fun K hK => ?_)
  go_simp
  refine ⟨Pv p n, fun W hW => ?_, hK _ ?_⟩
  · (obtain ⟨_, ⟨u0, u1, u2, _⟩, ⟨v0, v1, v2, _⟩, _⟩ := hW; simp [go_sem, v0, v1, v2])
  clear hK K
  refine wpQuiet_step (fun K hK => ?_)
  go_simp
  refine ⟨Pv p n, fun W hW => ?_, hK _ ?_⟩
  · (obtain ⟨_, ⟨u0, u1, u2, _⟩, ⟨v0, v1, v2, _⟩, _⟩ := hW; simp [go_sem, u0, u1, u2])
  clear hK K
  refine wpQuiet_step (fun K hK => ?_)
  go_simp
  refine ⟨.bool true, fun W hW => ?_, hK _ ?_⟩
  · exact (meets_any hq hp n n W).mono fun e w2 ⟨he, hb⟩ => ⟨by rw [he, M1], HeldN.step2 hb hW⟩
  clear hK K
  refine wpQuiet_step (fun K hK => ?_)
  go_simp
  refine ⟨_, fun _ _ => rfl, hK _ ?_⟩
  clear hK K
  refine wpQuiet_step (fun K hK => ?_)
  go_simp
  refine ⟨_, fun _ _ => rfl, hK _ ?_⟩
  clear hK K
  refine wpQuiet_nil ?_
  intro wx HF
  clear a0 a1 a2 a3 a4 a5 a6 b0 b1 b2 b3 b4 b5 b6 c0 c1 c2 HH0 hb1
  have HH1 := HF
  clear HF
  obtain ⟨_, ⟨a0, a1, a2, _, _, _, a6⟩, ⟨b0, b1, b2, _, _, _, b6⟩, c0, c1, c2⟩ := id HH1
  go_wp2_with fail
  refine (covers_any (p := p) hq n n _).mono ?_
  rintro e w2 ⟨rfl, hb2⟩
  have HH2 := HeldN.step2 hb2 HH1
  clear a0 a1 a2 a6 b0 b1 b2 b6 c0 c1 c2 HH1 hb2
  obtain ⟨_, ⟨a0, a1, a2, _, _, _, a6⟩, ⟨b0, b1, b2, _, _, _, b6⟩, c0, c1, c2⟩ := id HH2
  go_wp2_with fail
  refine (covers_any (p := p) hp n n _).mono ?_
  rintro e w3 ⟨rfl, hb3⟩
  have HH3 := HeldN.step2 hb3 HH2
  clear a0 a1 a2 a6 b0 b1 b2 b6 c0 c1 c2 HH2 hb3
  obtain ⟨_, ⟨a0, a1, a2, _, _, _, a6⟩, ⟨b0, b1, b2, _, _, _, b6⟩, c0, c1, c2⟩ := id HH3
  go_wp2_with fail
  refine (covers_any (p := p) hq n n _).mono ?_
  rintro e w4 ⟨rfl, hb4⟩
  have HH4 := HeldN.step2 hb4 HH3
  clear a0 a1 a2 a6 b0 b1 b2 b6 c0 c1 c2 HH3 hb4
  obtain ⟨_, ⟨a0, a1, a2, _, _, _, a6⟩, ⟨b0, b1, b2, _, _, _, b6⟩, c0, c1, c2⟩ := id HH4
  go_wp2_with fail
  refine (has_any (p := p) ha n _).mono ?_
  rintro e w5 ⟨rfl, hb5⟩
  have HH5 := HeldN.step2 hb5 HH4
  clear a0 a1 a2 a6 b0 b1 b2 b6 c0 c1 c2 HH4 hb5
  obtain ⟨_, ⟨a0, a1, a2, _, _, _, a6⟩, ⟨b0, b1, b2, _, _, _, b6⟩, c0, c1, c2⟩ := id HH5
  go_wp2_with fail
  refine (has_any (p := p) ha n _).mono ?_
  rintro e w6 ⟨rfl, hb6⟩
  have HH6 := HeldN.step2 hb6 HH5
  clear a0 a1 a2 a6 b0 b1 b2 b6 c0 c1 c2 HH5 hb6
  obtain ⟨_, ⟨a0, a1, a2, _, _, _, a6⟩, ⟨b0, b1, b2, _, _, _, b6⟩, c0, c1, c2⟩ := id HH6
  go_wp2_with fail
  refine (meets_any hp hq n n _).mono ?_
  rintro e w7 ⟨rfl, hb7⟩
  have HH7 := HeldN.step2 hb7 HH6
  clear a0 a1 a2 a6 b0 b1 b2 b6 c0 c1 c2 HH6 hb7
  obtain ⟨_, ⟨a0, a1, a2, _, _, _, a6⟩, ⟨b0, b1, b2, _, _, _, b6⟩, c0, c1, c2⟩ := id HH7
  go_wp2_with fail
  refine (halves_any hp n _).mono ?_
  rintro e w8 ⟨rfl, hb8⟩
  simp only [hH]
  have HH8 := HeldN.step2 hb8 HH7
  clear a0 a1 a2 a6 b0 b1 b2 b6 c0 c1 c2 HH7 hb8
  obtain ⟨_, ⟨a0, a1, a2, _, _, _, a6⟩, ⟨b0, b1, b2, _, _, _, b6⟩, c0, c1, c2⟩ := id HH8
  have y1x0 : w.heap.size < w8.heap.size + 1 := by omega
  have y2x0 : w.heap.size < w8.heap.size + 1 + 1 := by omega
  have y1x1 : w.heap.size + 1 < w8.heap.size + 1 := by omega
  have y2x1 : w.heap.size + 1 < w8.heap.size + 1 + 1 := by omega
  have y1x2 : w.heap.size + 1 + 1 < w8.heap.size + 1 := by omega
  have y2x2 : w.heap.size + 1 + 1 < w8.heap.size + 1 + 1 := by omega
  have y3 : w8.heap.size < w8.heap.size + 1 + 1 := by omega
  go_wp2_with fail
  refine (has_any (p := p) ha (n + 1) _).mono ?_
  rintro e w9 ⟨rfl, hb9⟩
  have HH9 := heldM_new HH8 hb9
  clear y1x0 y2x0 y1x1 y2x1 y1x2 y2x2 y3
  clear a0 a1 a2 a6 b0 b1 b2 b6 c0 c1 c2 HH8 hb9
  obtain ⟨⟨_, ⟨a0, a1, a2, _, _, _, a6⟩, ⟨b0, b1, b2, _, _, _, b6⟩, c0, c1, c2⟩, ⟨d0, d1, d2, _, _, _, d6⟩, ⟨e0, e1, e2, _, _, _, e6⟩⟩ := id HH9
  go_wp2_with fail
  refine (has_any (p := h) ha (n + 1) _).mono ?_
  rintro e w10 ⟨rfl, hb10⟩
  have HH10 := HeldM.step2 hb10 HH9
  clear d0 d1 d2 d6 e0 e1 e2 e6
  clear a0 a1 a2 a6 b0 b1 b2 b6 c0 c1 c2 HH9 hb10
  obtain ⟨⟨_, ⟨a0, a1, a2, _, _, _, a6⟩, ⟨b0, b1, b2, _, _, _, b6⟩, c0, c1, c2⟩, ⟨d0, d1, d2, _, _, _, d6⟩, ⟨e0, e1, e2, _, _, _, e6⟩⟩ := id HH10
  go_wp2_with fail
  refine (sound_any hp (n + 1) _).mono ?_
  rintro e w11 ⟨rfl, hb11⟩
  have HH11 := HeldM.step2 hb11 HH10
  clear d0 d1 d2 d6 e0 e1 e2 e6
  clear a0 a1 a2 a6 b0 b1 b2 b6 c0 c1 c2 HH10 hb11
  obtain ⟨⟨_, ⟨a0, a1, a2, _, _, _, a6⟩, ⟨b0, b1, b2, _, _, _, b6⟩, c0, c1, c2⟩, ⟨d0, d1, d2, _, _, _, d6⟩, ⟨e0, e1, e2, _, _, _, e6⟩⟩ := id HH11
  go_wp2_with fail
  refine (sound_any fh (n + 1) _).mono ?_
  rintro e w12 ⟨rfl, hb12⟩
  have HH12 := HeldM.step2 hb12 HH11
  clear d0 d1 d2 d6 e0 e1 e2 e6
  clear a0 a1 a2 a6 b0 b1 b2 b6 c0 c1 c2 HH11 hb12
  obtain ⟨⟨_, ⟨a0, a1, a2, _, _, _, a6⟩, ⟨b0, b1, b2, _, _, _, b6⟩, c0, c1, c2⟩, ⟨d0, d1, d2, _, _, _, d6⟩, ⟨e0, e1, e2, _, _, _, e6⟩⟩ := id HH12
  go_wp2_with fail
  refine (meets_any hp fh (n + 1) (n + 1) _).mono ?_
  rintro e w13 ⟨rfl, hb13⟩
  have HH13 := HeldM.step2 hb13 HH12
  clear d0 d1 d2 d6 e0 e1 e2 e6
  clear a0 a1 a2 a6 b0 b1 b2 b6 c0 c1 c2 HH12 hb13
  obtain ⟨⟨_, ⟨a0, a1, a2, _, _, _, a6⟩, ⟨b0, b1, b2, _, _, _, b6⟩, c0, c1, c2⟩, ⟨d0, d1, d2, _, _, _, d6⟩, ⟨e0, e1, e2, _, _, _, e6⟩⟩ := id HH13
  go_wp2_with fail
  refine (covers_any (p := p) hp n (n + 1) _).mono ?_
  rintro e w14 ⟨rfl, hb14⟩
  have HH14 := HeldM.step2 hb14 HH13
  clear d0 d1 d2 d6 e0 e1 e2 e6
  clear a0 a1 a2 a6 b0 b1 b2 b6 c0 c1 c2 HH13 hb14
  obtain ⟨⟨_, ⟨a0, a1, a2, _, _, _, a6⟩, ⟨b0, b1, b2, _, _, _, b6⟩, c0, c1, c2⟩, ⟨d0, d1, d2, _, _, _, d6⟩, ⟨e0, e1, e2, _, _, _, e6⟩⟩ := id HH14
  go_wp2_with fail
  refine (covers_any (p := p) fh n (n + 1) _).mono ?_
  rintro e w15 ⟨rfl, hb15⟩
  have HH15 := HeldM.step2 hb15 HH14
  clear d0 d1 d2 d6 e0 e1 e2 e6
  clear a0 a1 a2 a6 b0 b1 b2 b6 c0 c1 c2 HH14 hb15
  obtain ⟨⟨_, ⟨a0, a1, a2, _, _, _, a6⟩, ⟨b0, b1, b2, _, _, _, b6⟩, c0, c1, c2⟩, ⟨d0, d1, d2, _, _, _, d6⟩, ⟨e0, e1, e2, _, _, _, e6⟩⟩ := id HH15
  go_wp2_with fail
  refine (has_any (p := p) ha n _).mono ?_
  rintro e w16 ⟨rfl, hb16⟩
  have HH16 := HeldM.step2 hb16 HH15
  clear d0 d1 d2 d6 e0 e1 e2 e6
  clear a0 a1 a2 a6 b0 b1 b2 b6 c0 c1 c2 HH15 hb16
  obtain ⟨⟨_, ⟨a0, a1, a2, _, _, _, a6⟩, ⟨b0, b1, b2, _, _, _, b6⟩, c0, c1, c2⟩, ⟨d0, d1, d2, _, _, _, d6⟩, ⟨e0, e1, e2, _, _, _, e6⟩⟩ := id HH16
  go_wp2_with fail
  go_ret
  exact ⟨rfl, HH16.1.1⟩

set_option maxRecDepth 100000 in
set_option maxHeartbeats 2000000 in
theorem nest_1010_01 {p q a : Nat} (hp : Fits p) (hq : Fits q) (ha : Fits a) (n m : Int) (C1 : coversS p n q m = true) (C2 : coversS q m p n = false) (HP : hasS p n a = true) (HQ : hasS q m a = false) (HO : halfOk p n = true) (HL : hasS p (n + 1) a = false) (HR : hasS (highA p n) (n + 1) a = true) (w : World) : Calls Try.prog 7 #[Pv p n, Pv q m, A a] w (Gives (.bool true) w) := by
  have M1 : meetsS p n q m = true := by unfold meetsS; rw [C1, C2]; rfl
  have M2 : meetsS q m p n = true := by unfold meetsS; rw [C1, C2]; rfl
  obtain ⟨G1, G2, G3, G4, G5, G6, G7, _⟩ := halves_all HO
  have ⟨nb0, nb1, nb2⟩ := half_facts HO
  have fh : Fits (highA p n) := by unfold highA; rw [if_pos HO]; exact fits_high hp nb2 (by omega)
  clear nb2
  generalize hH : highA p n = h at *
  go_enter Try.func7, Try.ntmps7
  go_wp2_with fail
  refine (awake_any _).mono ?_
  rintro e w1 ⟨rfl, hb1⟩
  have HH0 : HeldN w p n q m a w1 := HeldN.step2 hb1 (heldN_new w p n q m a _ _)
  obtain ⟨_, ⟨a0, a1, a2, a3, a4, a5, a6⟩, ⟨b0, b1, b2, b3, b4, b5, b6⟩, c0, c1, c2⟩ := id HH0
  go_wp2_with fail
  refine wp_region_quiet (C := HeldN w p n q m a) (by kernel_rfl) (by kernel_rfl) (HeldN.drew HH0) ?_
  refine wpQuiet_step (fun K hK => ?_)
  go_simp
  refine ⟨Pv p n, fun W hW => ?_, hK _ ?_⟩
  · (obtain ⟨_, ⟨u0, u1, u2, _⟩, ⟨v0, v1, v2, _⟩, _⟩ := hW; simp [go_sem, u0, u1, u2])
  clear hK K
  refine wpQuiet_step (fun K hK => ?_)
  go_simp
  refine ⟨Pv q m, fun W hW => ?_, hK _ ?_⟩
  · (obtain ⟨_, ⟨u0, u1, u2, _⟩, ⟨v0, v1, v2, _⟩, _⟩ := hW; simp [go_sem, v0, v1, v2])
  clear hK K
  refine wpQuiet_step (fun K hK => ?_)
  go_simp
  refine ⟨.bool true, fun W hW => ?_, hK _ ?_⟩
  · exact (meets_any hp hq n m W).mono fun e w2 ⟨he, hb⟩ => ⟨by rw [he, M1], HeldN.step2 hb hW⟩
  clear hK K
  refine wpQuiet_step (fun K hK => ?_)
  go_simp
  refine ⟨Pv p n, fun W hW => ?_, hK _ ?_⟩
  · (obtain ⟨_, ⟨u0, u1, u2, _⟩, ⟨v0, v1, v2, _⟩, _⟩ := hW; simp [go_sem, u0, u1, u2])
  clear hK K
  refine wpQuiet_step (fun K hK => ?_)
  go_simp
  refine ⟨Pv q m, fun W hW => ?_, hK _ ?_⟩
  · (obtain ⟨_, ⟨u0, u1, u2, _⟩, ⟨v0, v1, v2, _⟩, _⟩ := hW; simp [go_sem, v0, v1, v2])
  clear hK K
  refine wpQuiet_step (fun K hK => ?_)
  go_simp
  refine ⟨.bool true, fun W hW => ?_, hK _ ?_⟩
  · exact (covers_any (p := p) hq n m W).mono fun e w2 ⟨he, hb⟩ => ⟨by rw [he, C1], HeldN.step2 hb hW⟩
  clear hK K
  refine wpQuiet_step (fun K hK => ?_)
  go_simp
  refine ⟨_, fun _ _ => rfl, hK _ ?_⟩
  clear hK K
  refine wpQuiet_step (fun K hK => ?_)
  go_simp
  refine hK _ ?_
  clear hK K
  refine wpQuiet_step (fun K hK => ?_)
  go_simp
  refine hK _ ?_
  clear hK K
  refine wpQuiet_step (fun K hK => ?_)
  go_simp
  refine hK _ ?_
  clear hK K
  refine wpQuiet_step (fun K hK => ?_)
  go_simp
  refine ⟨_, fun _ _ => rfl, hK _ ?_⟩
  clear hK K
  refine wpQuiet_step (fun K hK => ?_)
  go_simp
  refine ⟨_, fun _ _ => rfl, hK _ ?_⟩
  clear hK K
  refine wpQuiet_step (fun K hK => ?_)
  go_simp
  refine ⟨_, fun _ _ => rfl, hK _ ?_⟩
  clear hK K
  refine wpQuiet_step (fun K hK => ?_)
  go_simp
  refine ⟨Pv p n, fun W hW => ?_, hK _ ?_⟩
  · (obtain ⟨_, ⟨u0, u1, u2, _⟩, ⟨v0, v1, v2, _⟩, _⟩ := hW; simp [go_sem, u0, u1, u2])
  clear hK K
  refine wpQuiet_step (fun K hK => ?_)
  go_simp
  refine ⟨Pv q m, fun W hW => ?_, hK _ ?_⟩
  · (obtain ⟨_, ⟨u0, u1, u2, _⟩, ⟨v0, v1, v2, _⟩, _⟩ := hW; simp [go_sem, v0, v1, v2])
  clear hK K
  refine wpQuiet_step (fun K hK => ?_)
  go_simp
  refine ⟨.bool true, fun W hW => ?_, hK _ ?_⟩
  · exact (meets_any hp hq n m W).mono fun e w2 ⟨he, hb⟩ => ⟨by rw [he, M1], HeldN.step2 hb hW⟩
  clear hK K
  refine wpQuiet_step (fun K hK => ?_)
  go_simp
  refine ⟨Pv q m, fun W hW => ?_, hK _ ?_⟩
  · (obtain ⟨_, ⟨u0, u1, u2, _⟩, ⟨v0, v1, v2, _⟩, _⟩ := hW; simp [go_sem, v0, v1, v2])
  clear hK K
  refine wpQuiet_step (fun K hK => ?_)
  go_simp
  refine ⟨Pv p n, fun W hW => ?_, hK _ ?_⟩
  · (obtain ⟨_, ⟨u0, u1, u2, _⟩, ⟨v0, v1, v2, _⟩, _⟩ := hW; simp [go_sem, u0, u1, u2])
  clear hK K
  refine wpQuiet_step (fun K hK => ?_)
  go_simp
  refine ⟨.bool true, fun W hW => ?_, hK _ ?_⟩
  · exact (meets_any hq hp m n W).mono fun e w2 ⟨he, hb⟩ => ⟨by rw [he, M2], HeldN.step2 hb hW⟩
  clear hK K
  refine wpQuiet_step (fun K hK => ?_)
  go_simp
  refine ⟨_, fun _ _ => rfl, hK _ ?_⟩
  clear hK K
  refine wpQuiet_step (fun K hK => ?_)
  go_simp
  refine ⟨_, fun _ _ => rfl, hK _ ?_⟩
  clear hK K
  refine wpQuiet_nil ?_
  intro wx HF
  clear a0 a1 a2 a3 a4 a5 a6 b0 b1 b2 b3 b4 b5 b6 c0 c1 c2 HH0 hb1
  have HH1 := HF
  clear HF
  obtain ⟨_, ⟨a0, a1, a2, _, _, _, a6⟩, ⟨b0, b1, b2, _, _, _, b6⟩, c0, c1, c2⟩ := id HH1
  go_wp2_with fail
  refine (covers_any (p := p) hq n m _).mono ?_
  rintro e w2 ⟨rfl, hb2⟩
  have HH2 := HeldN.step2 hb2 HH1
  clear a0 a1 a2 a6 b0 b1 b2 b6 c0 c1 c2 HH1 hb2
  obtain ⟨_, ⟨a0, a1, a2, _, _, _, a6⟩, ⟨b0, b1, b2, _, _, _, b6⟩, c0, c1, c2⟩ := id HH2
  go_wp2_with fail
  refine (covers_any (p := q) hp m n _).mono ?_
  rintro e w3 ⟨rfl, hb3⟩
  have HH3 := HeldN.step2 hb3 HH2
  clear a0 a1 a2 a6 b0 b1 b2 b6 c0 c1 c2 HH2 hb3
  obtain ⟨_, ⟨a0, a1, a2, _, _, _, a6⟩, ⟨b0, b1, b2, _, _, _, b6⟩, c0, c1, c2⟩ := id HH3
  go_wp2_with fail
  refine (covers_any (p := p) hq n m _).mono ?_
  rintro e w4 ⟨rfl, hb4⟩
  have HH4 := HeldN.step2 hb4 HH3
  clear a0 a1 a2 a6 b0 b1 b2 b6 c0 c1 c2 HH3 hb4
  obtain ⟨_, ⟨a0, a1, a2, _, _, _, a6⟩, ⟨b0, b1, b2, _, _, _, b6⟩, c0, c1, c2⟩ := id HH4
  go_wp2_with fail
  refine (has_any (p := q) ha m _).mono ?_
  rintro e w5 ⟨rfl, hb5⟩
  have HH5 := HeldN.step2 hb5 HH4
  clear a0 a1 a2 a6 b0 b1 b2 b6 c0 c1 c2 HH4 hb5
  obtain ⟨_, ⟨a0, a1, a2, _, _, _, a6⟩, ⟨b0, b1, b2, _, _, _, b6⟩, c0, c1, c2⟩ := id HH5
  go_wp2_with fail
  refine (meets_any hp hq n m _).mono ?_
  rintro e w6 ⟨rfl, hb6⟩
  have HH6 := HeldN.step2 hb6 HH5
  clear a0 a1 a2 a6 b0 b1 b2 b6 c0 c1 c2 HH5 hb6
  obtain ⟨_, ⟨a0, a1, a2, _, _, _, a6⟩, ⟨b0, b1, b2, _, _, _, b6⟩, c0, c1, c2⟩ := id HH6
  go_wp2_with fail
  refine (halves_any hp n _).mono ?_
  rintro e w7 ⟨rfl, hb7⟩
  simp only [hH]
  have HH7 := HeldN.step2 hb7 HH6
  clear a0 a1 a2 a6 b0 b1 b2 b6 c0 c1 c2 HH6 hb7
  obtain ⟨_, ⟨a0, a1, a2, _, _, _, a6⟩, ⟨b0, b1, b2, _, _, _, b6⟩, c0, c1, c2⟩ := id HH7
  have y1x0 : w.heap.size < w7.heap.size + 1 := by omega
  have y2x0 : w.heap.size < w7.heap.size + 1 + 1 := by omega
  have y1x1 : w.heap.size + 1 < w7.heap.size + 1 := by omega
  have y2x1 : w.heap.size + 1 < w7.heap.size + 1 + 1 := by omega
  have y1x2 : w.heap.size + 1 + 1 < w7.heap.size + 1 := by omega
  have y2x2 : w.heap.size + 1 + 1 < w7.heap.size + 1 + 1 := by omega
  have y3 : w7.heap.size < w7.heap.size + 1 + 1 := by omega
  go_wp2_with fail
  refine (has_any (p := p) ha (n + 1) _).mono ?_
  rintro e w8 ⟨rfl, hb8⟩
  have HH8 := heldM_new HH7 hb8
  clear y1x0 y2x0 y1x1 y2x1 y1x2 y2x2 y3
  clear a0 a1 a2 a6 b0 b1 b2 b6 c0 c1 c2 HH7 hb8
  obtain ⟨⟨_, ⟨a0, a1, a2, _, _, _, a6⟩, ⟨b0, b1, b2, _, _, _, b6⟩, c0, c1, c2⟩, ⟨d0, d1, d2, _, _, _, d6⟩, ⟨e0, e1, e2, _, _, _, e6⟩⟩ := id HH8
  go_wp2_with fail
  refine (has_any (p := h) ha (n + 1) _).mono ?_
  rintro e w9 ⟨rfl, hb9⟩
  have HH9 := HeldM.step2 hb9 HH8
  clear d0 d1 d2 d6 e0 e1 e2 e6
  clear a0 a1 a2 a6 b0 b1 b2 b6 c0 c1 c2 HH8 hb9
  obtain ⟨⟨_, ⟨a0, a1, a2, _, _, _, a6⟩, ⟨b0, b1, b2, _, _, _, b6⟩, c0, c1, c2⟩, ⟨d0, d1, d2, _, _, _, d6⟩, ⟨e0, e1, e2, _, _, _, e6⟩⟩ := id HH9
  go_wp2_with fail
  refine (sound_any hp (n + 1) _).mono ?_
  rintro e w10 ⟨rfl, hb10⟩
  have HH10 := HeldM.step2 hb10 HH9
  clear d0 d1 d2 d6 e0 e1 e2 e6
  clear a0 a1 a2 a6 b0 b1 b2 b6 c0 c1 c2 HH9 hb10
  obtain ⟨⟨_, ⟨a0, a1, a2, _, _, _, a6⟩, ⟨b0, b1, b2, _, _, _, b6⟩, c0, c1, c2⟩, ⟨d0, d1, d2, _, _, _, d6⟩, ⟨e0, e1, e2, _, _, _, e6⟩⟩ := id HH10
  go_wp2_with fail
  refine (sound_any fh (n + 1) _).mono ?_
  rintro e w11 ⟨rfl, hb11⟩
  have HH11 := HeldM.step2 hb11 HH10
  clear d0 d1 d2 d6 e0 e1 e2 e6
  clear a0 a1 a2 a6 b0 b1 b2 b6 c0 c1 c2 HH10 hb11
  obtain ⟨⟨_, ⟨a0, a1, a2, _, _, _, a6⟩, ⟨b0, b1, b2, _, _, _, b6⟩, c0, c1, c2⟩, ⟨d0, d1, d2, _, _, _, d6⟩, ⟨e0, e1, e2, _, _, _, e6⟩⟩ := id HH11
  go_wp2_with fail
  refine (meets_any hp fh (n + 1) (n + 1) _).mono ?_
  rintro e w12 ⟨rfl, hb12⟩
  have HH12 := HeldM.step2 hb12 HH11
  clear d0 d1 d2 d6 e0 e1 e2 e6
  clear a0 a1 a2 a6 b0 b1 b2 b6 c0 c1 c2 HH11 hb12
  obtain ⟨⟨_, ⟨a0, a1, a2, _, _, _, a6⟩, ⟨b0, b1, b2, _, _, _, b6⟩, c0, c1, c2⟩, ⟨d0, d1, d2, _, _, _, d6⟩, ⟨e0, e1, e2, _, _, _, e6⟩⟩ := id HH12
  go_wp2_with fail
  refine (covers_any (p := p) hp n (n + 1) _).mono ?_
  rintro e w13 ⟨rfl, hb13⟩
  have HH13 := HeldM.step2 hb13 HH12
  clear d0 d1 d2 d6 e0 e1 e2 e6
  clear a0 a1 a2 a6 b0 b1 b2 b6 c0 c1 c2 HH12 hb13
  obtain ⟨⟨_, ⟨a0, a1, a2, _, _, _, a6⟩, ⟨b0, b1, b2, _, _, _, b6⟩, c0, c1, c2⟩, ⟨d0, d1, d2, _, _, _, d6⟩, ⟨e0, e1, e2, _, _, _, e6⟩⟩ := id HH13
  go_wp2_with fail
  refine (covers_any (p := p) fh n (n + 1) _).mono ?_
  rintro e w14 ⟨rfl, hb14⟩
  have HH14 := HeldM.step2 hb14 HH13
  clear d0 d1 d2 d6 e0 e1 e2 e6
  clear a0 a1 a2 a6 b0 b1 b2 b6 c0 c1 c2 HH13 hb14
  obtain ⟨⟨_, ⟨a0, a1, a2, _, _, _, a6⟩, ⟨b0, b1, b2, _, _, _, b6⟩, c0, c1, c2⟩, ⟨d0, d1, d2, _, _, _, d6⟩, ⟨e0, e1, e2, _, _, _, e6⟩⟩ := id HH14
  go_wp2_with fail
  refine (has_any (p := p) ha n _).mono ?_
  rintro e w15 ⟨rfl, hb15⟩
  have HH15 := HeldM.step2 hb15 HH14
  clear d0 d1 d2 d6 e0 e1 e2 e6
  clear a0 a1 a2 a6 b0 b1 b2 b6 c0 c1 c2 HH14 hb15
  obtain ⟨⟨_, ⟨a0, a1, a2, _, _, _, a6⟩, ⟨b0, b1, b2, _, _, _, b6⟩, c0, c1, c2⟩, ⟨d0, d1, d2, _, _, _, d6⟩, ⟨e0, e1, e2, _, _, _, e6⟩⟩ := id HH15
  go_wp2_with fail
  go_ret
  exact ⟨rfl, HH15.1.1⟩

set_option maxRecDepth 100000 in
set_option maxHeartbeats 2000000 in
theorem nest_010x_00 {p q a : Nat} (hp : Fits p) (hq : Fits q) (ha : Fits a) (n m : Int) (C1 : coversS p n q m = false) (C2 : coversS q m p n = true) (HP : hasS p n a = false) (HO : halfOk p n = true) (HL : hasS p (n + 1) a = false) (HR : hasS (highA p n) (n + 1) a = false) (w : World) : Calls Try.prog 7 #[Pv p n, Pv q m, A a] w (Gives (.bool true) w) := by
  have M1 : meetsS p n q m = true := by unfold meetsS; rw [C1, C2]; rfl
  have M2 : meetsS q m p n = true := by unfold meetsS; rw [C1, C2]; rfl
  obtain ⟨G1, G2, G3, G4, G5, G6, G7, _⟩ := halves_all HO
  have ⟨nb0, nb1, nb2⟩ := half_facts HO
  have fh : Fits (highA p n) := by unfold highA; rw [if_pos HO]; exact fits_high hp nb2 (by omega)
  clear nb2
  generalize hH : highA p n = h at *
  go_enter Try.func7, Try.ntmps7
  go_wp2_with fail
  refine (awake_any _).mono ?_
  rintro e w1 ⟨rfl, hb1⟩
  have HH0 : HeldN w p n q m a w1 := HeldN.step2 hb1 (heldN_new w p n q m a _ _)
  obtain ⟨_, ⟨a0, a1, a2, a3, a4, a5, a6⟩, ⟨b0, b1, b2, b3, b4, b5, b6⟩, c0, c1, c2⟩ := id HH0
  go_wp2_with fail
  refine wp_region_quiet (C := HeldN w p n q m a) (by kernel_rfl) (by kernel_rfl) (HeldN.drew HH0) ?_
  refine wpQuiet_step (fun K hK => ?_)
  go_simp
  refine ⟨Pv p n, fun W hW => ?_, hK _ ?_⟩
  · (obtain ⟨_, ⟨u0, u1, u2, _⟩, ⟨v0, v1, v2, _⟩, _⟩ := hW; simp [go_sem, u0, u1, u2])
  clear hK K
  refine wpQuiet_step (fun K hK => ?_)
  go_simp
  refine ⟨Pv q m, fun W hW => ?_, hK _ ?_⟩
  · (obtain ⟨_, ⟨u0, u1, u2, _⟩, ⟨v0, v1, v2, _⟩, _⟩ := hW; simp [go_sem, v0, v1, v2])
  clear hK K
  refine wpQuiet_step (fun K hK => ?_)
  go_simp
  refine ⟨.bool true, fun W hW => ?_, hK _ ?_⟩
  · exact (meets_any hp hq n m W).mono fun e w2 ⟨he, hb⟩ => ⟨by rw [he, M1], HeldN.step2 hb hW⟩
  clear hK K
  refine wpQuiet_step (fun K hK => ?_)
  go_simp
  refine ⟨Pv p n, fun W hW => ?_, hK _ ?_⟩
  · (obtain ⟨_, ⟨u0, u1, u2, _⟩, ⟨v0, v1, v2, _⟩, _⟩ := hW; simp [go_sem, u0, u1, u2])
  clear hK K
  refine wpQuiet_step (fun K hK => ?_)
  go_simp
  refine ⟨Pv q m, fun W hW => ?_, hK _ ?_⟩
  · (obtain ⟨_, ⟨u0, u1, u2, _⟩, ⟨v0, v1, v2, _⟩, _⟩ := hW; simp [go_sem, v0, v1, v2])
  clear hK K
  refine wpQuiet_step (fun K hK => ?_)
  go_simp
  refine ⟨.bool false, fun W hW => ?_, hK _ ?_⟩
  · exact (covers_any (p := p) hq n m W).mono fun e w2 ⟨he, hb⟩ => ⟨by rw [he, C1], HeldN.step2 hb hW⟩
  clear hK K
  refine wpQuiet_step (fun K hK => ?_)
  go_simp
  refine ⟨_, fun _ _ => rfl, hK _ ?_⟩
  clear hK K
  refine wpQuiet_step (fun K hK => ?_)
  go_simp
  refine ⟨Pv q m, fun W hW => ?_, hK _ ?_⟩
  · (obtain ⟨_, ⟨u0, u1, u2, _⟩, ⟨v0, v1, v2, _⟩, _⟩ := hW; simp [go_sem, v0, v1, v2])
  clear hK K
  refine wpQuiet_step (fun K hK => ?_)
  go_simp
  refine ⟨Pv p n, fun W hW => ?_, hK _ ?_⟩
  · (obtain ⟨_, ⟨u0, u1, u2, _⟩, ⟨v0, v1, v2, _⟩, _⟩ := hW; simp [go_sem, u0, u1, u2])
  clear hK K
  refine wpQuiet_step (fun K hK => ?_)
  go_simp
  refine ⟨.bool true, fun W hW => ?_, hK _ ?_⟩
  · exact (covers_any (p := q) hp m n W).mono fun e w2 ⟨he, hb⟩ => ⟨by rw [he, C2], HeldN.step2 hb hW⟩
  clear hK K
  refine wpQuiet_step (fun K hK => ?_)
  go_simp
  refine ⟨_, fun _ _ => rfl, hK _ ?_⟩
  clear hK K
  refine wpQuiet_step (fun K hK => ?_)
  go_simp
  refine ⟨_, fun _ _ => rfl, hK _ ?_⟩
  clear hK K
  refine wpQuiet_step (fun K hK => ?_)
  go_simp
  refine ⟨_, fun _ _ => rfl, hK _ ?_⟩
  clear hK K
  refine wpQuiet_step (fun K hK => ?_)
  go_simp
  refine ⟨Pv p n, fun W hW => ?_, hK _ ?_⟩
  · (obtain ⟨_, ⟨u0, u1, u2, _⟩, ⟨v0, v1, v2, _⟩, _⟩ := hW; simp [go_sem, u0, u1, u2])
  clear hK K
  refine wpQuiet_step (fun K hK => ?_)
  go_simp
  refine ⟨Pv q m, fun W hW => ?_, hK _ ?_⟩
  · (obtain ⟨_, ⟨u0, u1, u2, _⟩, ⟨v0, v1, v2, _⟩, _⟩ := hW; simp [go_sem, v0, v1, v2])
  clear hK K
  refine wpQuiet_step (fun K hK => ?_)
  go_simp
  refine ⟨.bool true, fun W hW => ?_, hK _ ?_⟩
  · exact (meets_any hp hq n m W).mono fun e w2 ⟨he, hb⟩ => ⟨by rw [he, M1], HeldN.step2 hb hW⟩
  clear hK K
  refine wpQuiet_step (fun K hK => ?_)
  go_simp
  refine ⟨Pv q m, fun W hW => ?_, hK _ ?_⟩
  · (obtain ⟨_, ⟨u0, u1, u2, _⟩, ⟨v0, v1, v2, _⟩, _⟩ := hW; simp [go_sem, v0, v1, v2])
  clear hK K
  refine wpQuiet_step (fun K hK => ?_)
  go_simp
  refine ⟨Pv p n, fun W hW => ?_, hK _ ?_⟩
  · (obtain ⟨_, ⟨u0, u1, u2, _⟩, ⟨v0, v1, v2, _⟩, _⟩ := hW; simp [go_sem, u0, u1, u2])
  clear hK K
  refine wpQuiet_step (fun K hK => ?_)
  go_simp
  refine ⟨.bool true, fun W hW => ?_, hK _ ?_⟩
  · exact (meets_any hq hp m n W).mono fun e w2 ⟨he, hb⟩ => ⟨by rw [he, M2], HeldN.step2 hb hW⟩
  clear hK K
  refine wpQuiet_step (fun K hK => ?_)
  go_simp
  refine ⟨_, fun _ _ => rfl, hK _ ?_⟩
  clear hK K
  refine wpQuiet_step (fun K hK => ?_)
  go_simp
  refine ⟨_, fun _ _ => rfl, hK _ ?_⟩
  clear hK K
  refine wpQuiet_nil ?_
  intro wx HF
  clear a0 a1 a2 a3 a4 a5 a6 b0 b1 b2 b3 b4 b5 b6 c0 c1 c2 HH0 hb1
  have HH1 := HF
  clear HF
  obtain ⟨_, ⟨a0, a1, a2, _, _, _, a6⟩, ⟨b0, b1, b2, _, _, _, b6⟩, c0, c1, c2⟩ := id HH1
  go_wp2_with fail
  refine (covers_any (p := p) hq n m _).mono ?_
  rintro e w2 ⟨rfl, hb2⟩
  have HH2 := HeldN.step2 hb2 HH1
  clear a0 a1 a2 a6 b0 b1 b2 b6 c0 c1 c2 HH1 hb2
  obtain ⟨_, ⟨a0, a1, a2, _, _, _, a6⟩, ⟨b0, b1, b2, _, _, _, b6⟩, c0, c1, c2⟩ := id HH2
  go_wp2_with fail
  refine (covers_any (p := p) hq n m _).mono ?_
  rintro e w3 ⟨rfl, hb3⟩
  have HH3 := HeldN.step2 hb3 HH2
  clear a0 a1 a2 a6 b0 b1 b2 b6 c0 c1 c2 HH2 hb3
  obtain ⟨_, ⟨a0, a1, a2, _, _, _, a6⟩, ⟨b0, b1, b2, _, _, _, b6⟩, c0, c1, c2⟩ := id HH3
  go_wp2_with fail
  refine (meets_any hp hq n m _).mono ?_
  rintro e w4 ⟨rfl, hb4⟩
  have HH4 := HeldN.step2 hb4 HH3
  clear a0 a1 a2 a6 b0 b1 b2 b6 c0 c1 c2 HH3 hb4
  obtain ⟨_, ⟨a0, a1, a2, _, _, _, a6⟩, ⟨b0, b1, b2, _, _, _, b6⟩, c0, c1, c2⟩ := id HH4
  go_wp2_with fail
  refine (halves_any hp n _).mono ?_
  rintro e w5 ⟨rfl, hb5⟩
  simp only [hH]
  have HH5 := HeldN.step2 hb5 HH4
  clear a0 a1 a2 a6 b0 b1 b2 b6 c0 c1 c2 HH4 hb5
  obtain ⟨_, ⟨a0, a1, a2, _, _, _, a6⟩, ⟨b0, b1, b2, _, _, _, b6⟩, c0, c1, c2⟩ := id HH5
  have y1x0 : w.heap.size < w5.heap.size + 1 := by omega
  have y2x0 : w.heap.size < w5.heap.size + 1 + 1 := by omega
  have y1x1 : w.heap.size + 1 < w5.heap.size + 1 := by omega
  have y2x1 : w.heap.size + 1 < w5.heap.size + 1 + 1 := by omega
  have y1x2 : w.heap.size + 1 + 1 < w5.heap.size + 1 := by omega
  have y2x2 : w.heap.size + 1 + 1 < w5.heap.size + 1 + 1 := by omega
  have y3 : w5.heap.size < w5.heap.size + 1 + 1 := by omega
  go_wp2_with fail
  refine (has_any (p := p) ha (n + 1) _).mono ?_
  rintro e w6 ⟨rfl, hb6⟩
  have HH6 := heldM_new HH5 hb6
  clear y1x0 y2x0 y1x1 y2x1 y1x2 y2x2 y3
  clear a0 a1 a2 a6 b0 b1 b2 b6 c0 c1 c2 HH5 hb6
  obtain ⟨⟨_, ⟨a0, a1, a2, _, _, _, a6⟩, ⟨b0, b1, b2, _, _, _, b6⟩, c0, c1, c2⟩, ⟨d0, d1, d2, _, _, _, d6⟩, ⟨e0, e1, e2, _, _, _, e6⟩⟩ := id HH6
  go_wp2_with fail
  refine (has_any (p := h) ha (n + 1) _).mono ?_
  rintro e w7 ⟨rfl, hb7⟩
  have HH7 := HeldM.step2 hb7 HH6
  clear d0 d1 d2 d6 e0 e1 e2 e6
  clear a0 a1 a2 a6 b0 b1 b2 b6 c0 c1 c2 HH6 hb7
  obtain ⟨⟨_, ⟨a0, a1, a2, _, _, _, a6⟩, ⟨b0, b1, b2, _, _, _, b6⟩, c0, c1, c2⟩, ⟨d0, d1, d2, _, _, _, d6⟩, ⟨e0, e1, e2, _, _, _, e6⟩⟩ := id HH7
  go_wp2_with fail
  refine (sound_any hp (n + 1) _).mono ?_
  rintro e w8 ⟨rfl, hb8⟩
  have HH8 := HeldM.step2 hb8 HH7
  clear d0 d1 d2 d6 e0 e1 e2 e6
  clear a0 a1 a2 a6 b0 b1 b2 b6 c0 c1 c2 HH7 hb8
  obtain ⟨⟨_, ⟨a0, a1, a2, _, _, _, a6⟩, ⟨b0, b1, b2, _, _, _, b6⟩, c0, c1, c2⟩, ⟨d0, d1, d2, _, _, _, d6⟩, ⟨e0, e1, e2, _, _, _, e6⟩⟩ := id HH8
  go_wp2_with fail
  refine (sound_any fh (n + 1) _).mono ?_
  rintro e w9 ⟨rfl, hb9⟩
  have HH9 := HeldM.step2 hb9 HH8
  clear d0 d1 d2 d6 e0 e1 e2 e6
  clear a0 a1 a2 a6 b0 b1 b2 b6 c0 c1 c2 HH8 hb9
  obtain ⟨⟨_, ⟨a0, a1, a2, _, _, _, a6⟩, ⟨b0, b1, b2, _, _, _, b6⟩, c0, c1, c2⟩, ⟨d0, d1, d2, _, _, _, d6⟩, ⟨e0, e1, e2, _, _, _, e6⟩⟩ := id HH9
  go_wp2_with fail
  refine (meets_any hp fh (n + 1) (n + 1) _).mono ?_
  rintro e w10 ⟨rfl, hb10⟩
  have HH10 := HeldM.step2 hb10 HH9
  clear d0 d1 d2 d6 e0 e1 e2 e6
  clear a0 a1 a2 a6 b0 b1 b2 b6 c0 c1 c2 HH9 hb10
  obtain ⟨⟨_, ⟨a0, a1, a2, _, _, _, a6⟩, ⟨b0, b1, b2, _, _, _, b6⟩, c0, c1, c2⟩, ⟨d0, d1, d2, _, _, _, d6⟩, ⟨e0, e1, e2, _, _, _, e6⟩⟩ := id HH10
  go_wp2_with fail
  refine (covers_any (p := p) hp n (n + 1) _).mono ?_
  rintro e w11 ⟨rfl, hb11⟩
  have HH11 := HeldM.step2 hb11 HH10
  clear d0 d1 d2 d6 e0 e1 e2 e6
  clear a0 a1 a2 a6 b0 b1 b2 b6 c0 c1 c2 HH10 hb11
  obtain ⟨⟨_, ⟨a0, a1, a2, _, _, _, a6⟩, ⟨b0, b1, b2, _, _, _, b6⟩, c0, c1, c2⟩, ⟨d0, d1, d2, _, _, _, d6⟩, ⟨e0, e1, e2, _, _, _, e6⟩⟩ := id HH11
  go_wp2_with fail
  refine (covers_any (p := p) fh n (n + 1) _).mono ?_
  rintro e w12 ⟨rfl, hb12⟩
  have HH12 := HeldM.step2 hb12 HH11
  clear d0 d1 d2 d6 e0 e1 e2 e6
  clear a0 a1 a2 a6 b0 b1 b2 b6 c0 c1 c2 HH11 hb12
  obtain ⟨⟨_, ⟨a0, a1, a2, _, _, _, a6⟩, ⟨b0, b1, b2, _, _, _, b6⟩, c0, c1, c2⟩, ⟨d0, d1, d2, _, _, _, d6⟩, ⟨e0, e1, e2, _, _, _, e6⟩⟩ := id HH12
  go_wp2_with fail
  refine (has_any (p := p) ha n _).mono ?_
  rintro e w13 ⟨rfl, hb13⟩
  have HH13 := HeldM.step2 hb13 HH12
  clear d0 d1 d2 d6 e0 e1 e2 e6
  clear a0 a1 a2 a6 b0 b1 b2 b6 c0 c1 c2 HH12 hb13
  obtain ⟨⟨_, ⟨a0, a1, a2, _, _, _, a6⟩, ⟨b0, b1, b2, _, _, _, b6⟩, c0, c1, c2⟩, ⟨d0, d1, d2, _, _, _, d6⟩, ⟨e0, e1, e2, _, _, _, e6⟩⟩ := id HH13
  go_wp2_with fail
  go_ret
  exact ⟨rfl, HH13.1.1⟩
end Go.Proofs.Ytimlcfklmghdhaa
