/-
  The walks of AddrNested, part 4 of 9: for prefix values and an address in the case that each theorem's premises name the law returns true.
-/
import Derived.Test.YtimlcfklmghdhaaAddrNestK
import Derived.BigQuiet
import Derived.Deep.QuietTactic
namespace Go.Proofs.Ytimlcfklmghdhaa
open Go.RowKit

set_option maxRecDepth 100000 in
set_option maxHeartbeats 2000000 in
theorem nest_1100_nosound {p a : Nat} (hp : Fits p) (ha : Fits a) (n : Int) (C1 : coversS p n p n = true) (HP : hasS p n a = false) (SP : soundS p n = false) (w : World) : Calls Try.prog 7 #[Pv p n, Pv p n, A a] w (Gives (.bool true) w) := by
  have hq := hp
  have M1 : meetsS p n p n = true := by unfold meetsS; rw [C1]; rfl
  have HO : halfOk p n = false := by unfold halfOk; rw [SP]; rfl
  have G1 : lowA p n = 0 := by unfold lowA; rw [if_neg (by simp [HO])]
  have G2 : halfN p n = 0 := by unfold halfN; rw [if_neg (by simp [HO])]
  have G3 : highA p n = 0 := by unfold highA; rw [if_neg (by simp [HO])]
  go_enter Try.func7, Try.ntmps7
  go_wp2_with fail
  refine (awake_any _).mono ?_
  rintro e w1 ⟨rfl, hb1⟩
  have HH0 : HeldN w p n p n a w1 := HeldN.step2 hb1 (heldN_new w p n p n a _ _)
  obtain ⟨_, ⟨a0, a1, a2, a3, a4, a5, a6⟩, ⟨b0, b1, b2, b3, b4, b5, b6⟩, c0, c1, c2⟩ := id HH0
  go_wp2_with fail
  refine wp_region_quiet (C := HeldN w p n p n a) (by kernel_rfl) (by kernel_rfl) (HeldN.drew HH0) ?_
  refine wpQuiet_step (fun K hK => ?_)
  go_simp
  refine ⟨Pv p n, fun W hW => ?_, hK _ ?_⟩
  · (obtain ⟨_, ⟨u0, u1, u2, _⟩, ⟨v0, v1, v2, _⟩, _⟩ := hW; simp [go_sem, u0, u1, u2])
  clear hK K
  refine wpQuiet_step (fun K hK => ?_)
  go_simp
  refine ⟨Pv p n, fun W hW => ?_, hK _ ?_⟩
  · (obtain ⟨_, ⟨u0, u1, u2, _⟩, ⟨v0, v1, v2, _⟩, _⟩ := hW; simp [go_sem, v0, v1, v2])
  clear hK K
  refine wpQuiet_step (fun K hK => ?_)
  go_simp
  refine ⟨.bool true, fun W hW => ?_, hK _ ?_⟩
  · exact (meets_any hp hq n n W).mono fun e w2 ⟨he, hb⟩ => ⟨by rw [he, M1], HeldN.step2 hb hW⟩
  clear hK K
  refine wpQuiet_step (fun K hK => ?_)
  go_simp
  refine ⟨Pv p n, fun W hW => ?_, hK _ ?_⟩
  · (obtain ⟨_, ⟨u0, u1, u2, _⟩, ⟨v0, v1, v2, _⟩, _⟩ := hW; simp [go_sem, u0, u1, u2])
  clear hK K
  refine wpQuiet_step (fun K hK => ?_)
  go_simp
  refine ⟨Pv p n, fun W hW => ?_, hK _ ?_⟩
  · (obtain ⟨_, ⟨u0, u1, u2, _⟩, ⟨v0, v1, v2, _⟩, _⟩ := hW; simp [go_sem, v0, v1, v2])
  clear hK K
  refine wpQuiet_step (fun K hK => ?_)
  go_simp
  refine ⟨.bool true, fun W hW => ?_, hK _ ?_⟩
  · exact (covers_any (p := p) hq n n W).mono fun e w2 ⟨he, hb⟩ => ⟨by rw [he, C1], HeldN.step2 hb hW⟩
  clear hK K
  refine wpQuiet_step (fun K hK => ?_)
  go_simp
  refine ⟨_, fun _ _ => rfl, hK _ ?_⟩
  clear hK K
  refine wpQuiet_step (fun K hK => ?_)
  go_simp
  refine hK _ ?_
  clear hK K
  refine wpQuiet_step (fun K hK => ?_)
  go_simp
  refine hK _ ?_
  clear hK K
  refine wpQuiet_step (fun K hK => ?_)
  go_simp
  refine hK _ ?_
  clear hK K
  refine wpQuiet_step (fun K hK => ?_)
  go_simp
  refine ⟨_, fun _ _ => rfl, hK _ ?_⟩
  clear hK K
  refine wpQuiet_step (fun K hK => ?_)
  go_simp
  refine ⟨_, fun _ _ => rfl, hK _ ?_⟩
  clear hK K
  refine wpQuiet_step (fun K hK => ?_)
  go_simp
  refine ⟨_, fun _ _ => rfl, hK _ ?_⟩
  clear hK K
  refine wpQuiet_step (fun K hK => ?_)
  go_simp
  refine ⟨Pv p n, fun W hW => ?_, hK _ ?_⟩
  · (obtain ⟨_, ⟨u0, u1, u2, _⟩, ⟨v0, v1, v2, _⟩, _⟩ := hW; simp [go_sem, u0, u1, u2])
  clear hK K
  refine wpQuiet_step (fun K hK => ?_)
  go_simp
  refine ⟨Pv p n, fun W hW => ?_, hK _ ?_⟩
  · (obtain ⟨_, ⟨u0, u1, u2, _⟩, ⟨v0, v1, v2, _⟩, _⟩ := hW; simp [go_sem, v0, v1, v2])
  clear hK K
  refine wpQuiet_step (fun K hK => ?_)
  go_simp
  refine ⟨.bool true, fun W hW => ?_, hK _ ?_⟩
  · exact (meets_any hp hq n n W).mono fun e w2 ⟨he, hb⟩ => ⟨by rw [he, M1], HeldN.step2 hb hW⟩
  clear hK K
  refine wpQuiet_step (fun K hK => ?_)
  go_simp
  refine ⟨Pv p n, fun W hW => ?_, hK _ ?_⟩
  · (obtain ⟨_, ⟨u0, u1, u2, _⟩, ⟨v0, v1, v2, _⟩, _⟩ := hW; simp [go_sem, v0, v1, v2])
  clear hK K
  refine wpQuiet_step (fun K hK => ?_)
  go_simp
  refine ⟨Pv p n, fun W hW => ?_, hK _ ?_⟩
  · (obtain ⟨_, ⟨u0, u1, u2, _⟩, ⟨v0, v1, v2, _⟩, _⟩ := hW; simp [go_sem, u0, u1, u2])
  clear hK K
  refine wpQuiet_step (fun K hK => ?_)
  go_simp
  refine ⟨.bool true, fun W hW => ?_, hK _ ?_⟩
  · exact (meets_any hq hp n n W).mono fun e w2 ⟨he, hb⟩ => ⟨by rw [he, M1], HeldN.step2 hb hW⟩
  clear hK K
  refine wpQuiet_step (fun K hK => ?_)
  go_simp
  refine ⟨_, fun _ _ => rfl, hK _ ?_⟩
  clear hK K
  refine wpQuiet_step (fun K hK => ?_)
  go_simp
  refine ⟨_, fun _ _ => rfl, hK _ ?_⟩
  clear hK K
  refine wpQuiet_nil ?_
  intro wx HF
  clear a0 a1 a2 a3 a4 a5 a6 b0 b1 b2 b3 b4 b5 b6 c0 c1 c2 HH0 hb1
  obtain ⟨HB, ⟨a0, a1, a2, a3, a4, a5, a6⟩, ⟨b0, b1, b2, b3, b4, b5, b6⟩, c0, c1, c2⟩ := HF
  go_wp2_with fail
  refine (covers_any (p := p) hq n n _).mono ?_
  rintro e w2 ⟨rfl, hb2⟩
  obtain ⟨hc2, hf2⟩ := bcell hb2
  have hs2 := hb2.size
  (try simp at hs2)
  have z2x0 : w.heap.size < w2.heap.size := by omega
  have z2x1 : w.heap.size + 1 < w2.heap.size := by omega
  have z2x2 : w.heap.size + 1 + 1 < w2.heap.size := by omega
  go_wp2_with fail
  refine (covers_any (p := p) hp n n _).mono ?_
  rintro e w3 ⟨rfl, hb3⟩
  obtain ⟨hc3, hf3⟩ := bcell hb3
  have hs3 := hb3.size
  (try simp at hs3)
  have z3x0 : w.heap.size < w3.heap.size := by omega
  have z3x1 : w.heap.size + 1 < w3.heap.size := by omega
  have z3x2 : w.heap.size + 1 + 1 < w3.heap.size := by omega
  go_wp2_with fail
  refine (covers_any (p := p) hq n n _).mono ?_
  rintro e w4 ⟨rfl, hb4⟩
  obtain ⟨hc4, hf4⟩ := bcell hb4
  have hs4 := hb4.size
  (try simp at hs4)
  have z4x0 : w.heap.size < w4.heap.size := by omega
  have z4x1 : w.heap.size + 1 < w4.heap.size := by omega
  have z4x2 : w.heap.size + 1 + 1 < w4.heap.size := by omega
  go_wp2_with fail
  refine (has_any (p := p) ha n _).mono ?_
  rintro e w5 ⟨rfl, hb5⟩
  obtain ⟨hc5, hf5⟩ := bcell hb5
  have hs5 := hb5.size
  (try simp at hs5)
  have z5x0 : w.heap.size < w5.heap.size := by omega
  have z5x1 : w.heap.size + 1 < w5.heap.size := by omega
  have z5x2 : w.heap.size + 1 + 1 < w5.heap.size := by omega
  go_wp2_with fail
  refine (meets_any hp hq n n _).mono ?_
  rintro e w6 ⟨rfl, hb6⟩
  obtain ⟨hc6, hf6⟩ := bcell hb6
  have hs6 := hb6.size
  (try simp at hs6)
  have z6x0 : w.heap.size < w6.heap.size := by omega
  have z6x1 : w.heap.size + 1 < w6.heap.size := by omega
  have z6x2 : w.heap.size + 1 + 1 < w6.heap.size := by omega
  go_wp2_with fail
  refine (halves_any hp n _).mono ?_
  rintro e w7 ⟨rfl, hb7⟩
  obtain ⟨hc7, hf7⟩ := bcell hb7
  have hs7 := hb7.size
  (try simp at hs7)
  have z7x0 : w.heap.size < w7.heap.size := by omega
  have z7x1 : w.heap.size + 1 < w7.heap.size := by omega
  have z7x2 : w.heap.size + 1 + 1 < w7.heap.size := by omega
  have y1x0 : w.heap.size < w7.heap.size + 1 := by omega
  have y2x0 : w.heap.size < w7.heap.size + 1 + 1 := by omega
  have y1x1 : w.heap.size + 1 < w7.heap.size + 1 := by omega
  have y2x1 : w.heap.size + 1 < w7.heap.size + 1 + 1 := by omega
  have y1x2 : w.heap.size + 1 + 1 < w7.heap.size + 1 := by omega
  have y2x2 : w.heap.size + 1 + 1 < w7.heap.size + 1 + 1 := by omega
  have y3 : w7.heap.size < w7.heap.size + 1 + 1 := by omega
  go_wp2_with fail
  refine (sound_any hp n _).mono ?_
  rintro e w8 ⟨rfl, hb8⟩
  obtain ⟨hc8, hf8⟩ := bcell hb8
  have hs8 := hb8.size
  (try simp at hs8)
  have z8x0 : w.heap.size < w8.heap.size := by omega
  have z8x1 : w.heap.size + 1 < w8.heap.size := by omega
  have z8x2 : w.heap.size + 1 + 1 < w8.heap.size := by omega
  have z8x3 : w7.heap.size < w8.heap.size := by omega
  have z8x4 : w7.heap.size + 1 < w8.heap.size := by omega
  go_wp2_with fail
  go_ret
  exact ⟨rfl, (chainAA (chain (chain (chain (chain (chain (chain HB hb2) hb3) hb4) hb5) hb6) hb7) hb8)⟩

set_option maxRecDepth 100000 in
set_option maxHeartbeats 2000000 in
theorem nest_1000_nosound {p q a : Nat} (hp : Fits p) (hq : Fits q) (ha : Fits a) (n m : Int) (C1 : coversS p n q m = true) (C2 : coversS q m p n = false) (_ : hasS p n a = false) (HQ : hasS q m a = false) (SP : soundS p n = false) (w : World) : Calls Try.prog 7 #[Pv p n, Pv q m, A a] w (Gives (.bool true) w) := by
  have M1 : meetsS p n q m = true := by unfold meetsS; rw [C1, C2]; rfl
  have M2 : meetsS q m p n = true := by unfold meetsS; rw [C1, C2]; rfl
  have HO : halfOk p n = false := by unfold halfOk; rw [SP]; rfl
  have G1 : lowA p n = 0 := by unfold lowA; rw [if_neg (by simp [HO])]
  have G2 : halfN p n = 0 := by unfold halfN; rw [if_neg (by simp [HO])]
  have G3 : highA p n = 0 := by unfold highA; rw [if_neg (by simp [HO])]
  go_enter Try.func7, Try.ntmps7
  go_wp2_with fail
  refine (awake_any _).mono ?_
  rintro e w1 ⟨rfl, hb1⟩
  have HH0 : HeldN w p n q m a w1 := HeldN.step2 hb1 (heldN_new w p n q m a _ _)
  obtain ⟨_, ⟨a0, a1, a2, a3, a4, a5, a6⟩, ⟨b0, b1, b2, b3, b4, b5, b6⟩, c0, c1, c2⟩ := id HH0
  go_wp2_with fail
  refine wp_region_quiet (C := HeldN w p n q m a) (by kernel_rfl) (by kernel_rfl) (HeldN.drew HH0) ?_
  refine wpQuiet_step (fun K hK => ?_)
  go_simp
  refine ⟨Pv p n, fun W hW => ?_, hK _ ?_⟩
  · (obtain ⟨_, ⟨u0, u1, u2, _⟩, ⟨v0, v1, v2, _⟩, _⟩ := hW; simp [go_sem, u0, u1, u2])
  clear hK K
  refine wpQuiet_step (fun K hK => ?_)
  go_simp
  refine ⟨Pv q m, fun W hW => ?_, hK _ ?_⟩
  · (obtain ⟨_, ⟨u0, u1, u2, _⟩, ⟨v0, v1, v2, _⟩, _⟩ := hW; simp [go_sem, v0, v1, v2])
  clear hK K
  refine wpQuiet_step (fun K hK => ?_)
  go_simp
  refine ⟨.bool true, fun W hW => ?_, hK _ ?_⟩
  · exact (meets_any hp hq n m W).mono fun e w2 ⟨he, hb⟩ => ⟨by rw [he, M1], HeldN.step2 hb hW⟩
  clear hK K
  refine wpQuiet_step (fun K hK => ?_)
  go_simp
  refine ⟨Pv p n, fun W hW => ?_, hK _ ?_⟩
  · (obtain ⟨_, ⟨u0, u1, u2, _⟩, ⟨v0, v1, v2, _⟩, _⟩ := hW; simp [go_sem, u0, u1, u2])
  clear hK K
  refine wpQuiet_step (fun K hK => ?_)
  go_simp
  refine ⟨Pv q m, fun W hW => ?_, hK _ ?_⟩
  · (obtain ⟨_, ⟨u0, u1, u2, _⟩, ⟨v0, v1, v2, _⟩, _⟩ := hW; simp [go_sem, v0, v1, v2])
  clear hK K
  refine wpQuiet_step (fun K hK => ?_)
  go_simp
  refine ⟨.bool true, fun W hW => ?_, hK _ ?_⟩
  · exact (covers_any (p := p) hq n m W).mono fun e w2 ⟨he, hb⟩ => ⟨by rw [he, C1], HeldN.step2 hb hW⟩
  clear hK K
  refine wpQuiet_step (fun K hK => ?_)
  go_simp
  refine ⟨_, fun _ _ => rfl, hK _ ?_⟩
  clear hK K
  refine wpQuiet_step (fun K hK => ?_)
  go_simp
  refine hK _ ?_
  clear hK K
  refine wpQuiet_step (fun K hK => ?_)
  go_simp
  refine hK _ ?_
  clear hK K
  refine wpQuiet_step (fun K hK => ?_)
  go_simp
  refine hK _ ?_
  clear hK K
  refine wpQuiet_step (fun K hK => ?_)
  go_simp
  refine ⟨_, fun _ _ => rfl, hK _ ?_⟩
  clear hK K
  refine wpQuiet_step (fun K hK => ?_)
  go_simp
  refine ⟨_, fun _ _ => rfl, hK _ ?_⟩
  clear hK K
  refine wpQuiet_step (fun K hK => ?_)
  go_simp
  refine ⟨_, fun _ _ => rfl, hK _ ?_⟩
  clear hK K
  refine wpQuiet_step (fun K hK => ?_)
  go_simp
  refine ⟨Pv p n, fun W hW => ?_, hK _ ?_⟩
  · (obtain ⟨_, ⟨u0, u1, u2, _⟩, ⟨v0, v1, v2, _⟩, _⟩ := hW; simp [go_sem, u0, u1, u2])
  clear hK K
  refine wpQuiet_step (fun K hK => ?_)
  go_simp
  refine ⟨Pv q m, fun W hW => ?_, hK _ ?_⟩
  · (obtain ⟨_, ⟨u0, u1, u2, _⟩, ⟨v0, v1, v2, _⟩, _⟩ := hW; simp [go_sem, v0, v1, v2])
  clear hK K
  refine wpQuiet_step (fun K hK => ?_)
  go_simp
  refine ⟨.bool true, fun W hW => ?_, hK _ ?_⟩
  · exact (meets_any hp hq n m W).mono fun e w2 ⟨he, hb⟩ => ⟨by rw [he, M1], HeldN.step2 hb hW⟩
  clear hK K
  refine wpQuiet_step (fun K hK => ?_)
  go_simp
  refine ⟨Pv q m, fun W hW => ?_, hK _ ?_⟩
  · (obtain ⟨_, ⟨u0, u1, u2, _⟩, ⟨v0, v1, v2, _⟩, _⟩ := hW; simp [go_sem, v0, v1, v2])
  clear hK K
  refine wpQuiet_step (fun K hK => ?_)
  go_simp
  refine ⟨Pv p n, fun W hW => ?_, hK _ ?_⟩
  · (obtain ⟨_, ⟨u0, u1, u2, _⟩, ⟨v0, v1, v2, _⟩, _⟩ := hW; simp [go_sem, u0, u1, u2])
  clear hK K
  refine wpQuiet_step (fun K hK => ?_)
  go_simp
  refine ⟨.bool true, fun W hW => ?_, hK _ ?_⟩
  · exact (meets_any hq hp m n W).mono fun e w2 ⟨he, hb⟩ => ⟨by rw [he, M2], HeldN.step2 hb hW⟩
  clear hK K
  refine wpQuiet_step (fun K hK => ?_)
  go_simp
  refine ⟨_, fun _ _ => rfl, hK _ ?_⟩
  clear hK K
  refine wpQuiet_step (fun K hK => ?_)
  go_simp
  refine ⟨_, fun _ _ => rfl, hK _ ?_⟩
  clear hK K
  refine wpQuiet_nil ?_
  intro wx HF
  clear a0 a1 a2 a3 a4 a5 a6 b0 b1 b2 b3 b4 b5 b6 c0 c1 c2 HH0 hb1
  obtain ⟨HB, ⟨a0, a1, a2, a3, a4, a5, a6⟩, ⟨b0, b1, b2, b3, b4, b5, b6⟩, c0, c1, c2⟩ := HF
  go_wp2_with fail
  refine (covers_any (p := p) hq n m _).mono ?_
  rintro e w2 ⟨rfl, hb2⟩
  obtain ⟨hc2, hf2⟩ := bcell hb2
  have hs2 := hb2.size
  (try simp at hs2)
  have z2x0 : w.heap.size < w2.heap.size := by omega
  have z2x1 : w.heap.size + 1 < w2.heap.size := by omega
  have z2x2 : w.heap.size + 1 + 1 < w2.heap.size := by omega
  go_wp2_with fail
  refine (covers_any (p := q) hp m n _).mono ?_
  rintro e w3 ⟨rfl, hb3⟩
  obtain ⟨hc3, hf3⟩ := bcell hb3
  have hs3 := hb3.size
  (try simp at hs3)
  have z3x0 : w.heap.size < w3.heap.size := by omega
  have z3x1 : w.heap.size + 1 < w3.heap.size := by omega
  have z3x2 : w.heap.size + 1 + 1 < w3.heap.size := by omega
  go_wp2_with fail
  refine (covers_any (p := p) hq n m _).mono ?_
  rintro e w4 ⟨rfl, hb4⟩
  obtain ⟨hc4, hf4⟩ := bcell hb4
  have hs4 := hb4.size
  (try simp at hs4)
  have z4x0 : w.heap.size < w4.heap.size := by omega
  have z4x1 : w.heap.size + 1 < w4.heap.size := by omega
  have z4x2 : w.heap.size + 1 + 1 < w4.heap.size := by omega
  go_wp2_with fail
  refine (has_any (p := q) ha m _).mono ?_
  rintro e w5 ⟨rfl, hb5⟩
  obtain ⟨hc5, hf5⟩ := bcell hb5
  have hs5 := hb5.size
  (try simp at hs5)
  have z5x0 : w.heap.size < w5.heap.size := by omega
  have z5x1 : w.heap.size + 1 < w5.heap.size := by omega
  have z5x2 : w.heap.size + 1 + 1 < w5.heap.size := by omega
  go_wp2_with fail
  refine (meets_any hp hq n m _).mono ?_
  rintro e w6 ⟨rfl, hb6⟩
  obtain ⟨hc6, hf6⟩ := bcell hb6
  have hs6 := hb6.size
  (try simp at hs6)
  have z6x0 : w.heap.size < w6.heap.size := by omega
  have z6x1 : w.heap.size + 1 < w6.heap.size := by omega
  have z6x2 : w.heap.size + 1 + 1 < w6.heap.size := by omega
  go_wp2_with fail
  refine (halves_any hp n _).mono ?_
  rintro e w7 ⟨rfl, hb7⟩
  obtain ⟨hc7, hf7⟩ := bcell hb7
  have hs7 := hb7.size
  (try simp at hs7)
  have z7x0 : w.heap.size < w7.heap.size := by omega
  have z7x1 : w.heap.size + 1 < w7.heap.size := by omega
  have z7x2 : w.heap.size + 1 + 1 < w7.heap.size := by omega
  have y1x0 : w.heap.size < w7.heap.size + 1 := by omega
  have y2x0 : w.heap.size < w7.heap.size + 1 + 1 := by omega
  have y1x1 : w.heap.size + 1 < w7.heap.size + 1 := by omega
  have y2x1 : w.heap.size + 1 < w7.heap.size + 1 + 1 := by omega
  have y1x2 : w.heap.size + 1 + 1 < w7.heap.size + 1 := by omega
  have y2x2 : w.heap.size + 1 + 1 < w7.heap.size + 1 + 1 := by omega
  have y3 : w7.heap.size < w7.heap.size + 1 + 1 := by omega
  go_wp2_with fail
  refine (sound_any hp n _).mono ?_
  rintro e w8 ⟨rfl, hb8⟩
  obtain ⟨hc8, hf8⟩ := bcell hb8
  have hs8 := hb8.size
  (try simp at hs8)
  have z8x0 : w.heap.size < w8.heap.size := by omega
  have z8x1 : w.heap.size + 1 < w8.heap.size := by omega
  have z8x2 : w.heap.size + 1 + 1 < w8.heap.size := by omega
  have z8x3 : w7.heap.size < w8.heap.size := by omega
  have z8x4 : w7.heap.size + 1 < w8.heap.size := by omega
  go_wp2_with fail
  go_ret
  exact ⟨rfl, (chainAA (chain (chain (chain (chain (chain (chain HB hb2) hb3) hb4) hb5) hb6) hb7) hb8)⟩

set_option maxRecDepth 100000 in
set_option maxHeartbeats 2000000 in
theorem nest_0010_n128 {p q a : Nat} (hp : Fits p) (hq : Fits q) (ha : Fits a) (n m : Int) (C1 : coversS p n q m = false) (C2 : coversS q m p n = false) (HP : hasS p n a = true) (HQ : hasS q m a = false) (SP : soundS p n = true) (N128 : n = 128) (w : World) : Calls Try.prog 7 #[Pv p n, Pv q m, A a] w (Gives (.bool true) w) := by
  have M1 : meetsS p n q m = false := by unfold meetsS; rw [C1, C2]; rfl
  have M2 : meetsS q m p n = false := by unfold meetsS; rw [C1, C2]; rfl
  have HO : halfOk p n = false := by unfold halfOk; rw [N128]; simp
  have NB : (n == 128) = true := by simpa using N128
  clear N128
  have G1 : lowA p n = 0 := by unfold lowA; rw [if_neg (by simp [HO])]
  have G2 : halfN p n = 0 := by unfold halfN; rw [if_neg (by simp [HO])]
  have G3 : highA p n = 0 := by unfold highA; rw [if_neg (by simp [HO])]
  go_enter Try.func7, Try.ntmps7
  go_wp2_with fail
  refine (awake_any _).mono ?_
  rintro e w1 ⟨rfl, hb1⟩
  have HH0 : HeldN w p n q m a w1 := HeldN.step2 hb1 (heldN_new w p n q m a _ _)
  obtain ⟨_, ⟨a0, a1, a2, a3, a4, a5, a6⟩, ⟨b0, b1, b2, b3, b4, b5, b6⟩, c0, c1, c2⟩ := id HH0
  go_wp2_with fail
  refine wp_region_quiet (C := HeldN w p n q m a) (by kernel_rfl) (by kernel_rfl) (HeldN.drew HH0) ?_
  refine wpQuiet_step (fun K hK => ?_)
  go_simp
  refine ⟨Pv p n, fun W hW => ?_, hK _ ?_⟩
  · (obtain ⟨_, ⟨u0, u1, u2, _⟩, ⟨v0, v1, v2, _⟩, _⟩ := hW; simp [go_sem, u0, u1, u2])
  clear hK K
  refine wpQuiet_step (fun K hK => ?_)
  go_simp
  refine ⟨Pv q m, fun W hW => ?_, hK _ ?_⟩
  · (obtain ⟨_, ⟨u0, u1, u2, _⟩, ⟨v0, v1, v2, _⟩, _⟩ := hW; simp [go_sem, v0, v1, v2])
  clear hK K
  refine wpQuiet_step (fun K hK => ?_)
  go_simp
  refine ⟨.bool false, fun W hW => ?_, hK _ ?_⟩
  · exact (meets_any hp hq n m W).mono fun e w2 ⟨he, hb⟩ => ⟨by rw [he, M1], HeldN.step2 hb hW⟩
  clear hK K
  refine wpQuiet_step (fun K hK => ?_)
  go_simp
  refine ⟨Pv p n, fun W hW => ?_, hK _ ?_⟩
  · (obtain ⟨_, ⟨u0, u1, u2, _⟩, ⟨v0, v1, v2, _⟩, _⟩ := hW; simp [go_sem, u0, u1, u2])
  clear hK K
  refine wpQuiet_step (fun K hK => ?_)
  go_simp
  refine ⟨Pv q m, fun W hW => ?_, hK _ ?_⟩
  · (obtain ⟨_, ⟨u0, u1, u2, _⟩, ⟨v0, v1, v2, _⟩, _⟩ := hW; simp [go_sem, v0, v1, v2])
  clear hK K
  refine wpQuiet_step (fun K hK => ?_)
  go_simp
  refine ⟨.bool false, fun W hW => ?_, hK _ ?_⟩
  · exact (covers_any (p := p) hq n m W).mono fun e w2 ⟨he, hb⟩ => ⟨by rw [he, C1], HeldN.step2 hb hW⟩
  clear hK K
  refine wpQuiet_step (fun K hK => ?_)
  go_simp
  refine ⟨_, fun _ _ => rfl, hK _ ?_⟩
  clear hK K
  refine wpQuiet_step (fun K hK => ?_)
  go_simp
  refine ⟨Pv q m, fun W hW => ?_, hK _ ?_⟩
  · (obtain ⟨_, ⟨u0, u1, u2, _⟩, ⟨v0, v1, v2, _⟩, _⟩ := hW; simp [go_sem, v0, v1, v2])
  clear hK K
  refine wpQuiet_step (fun K hK => ?_)
  go_simp
  refine ⟨Pv p n, fun W hW => ?_, hK _ ?_⟩
  · (obtain ⟨_, ⟨u0, u1, u2, _⟩, ⟨v0, v1, v2, _⟩, _⟩ := hW; simp [go_sem, u0, u1, u2])
  clear hK K
  refine wpQuiet_step (fun K hK => ?_)
  go_simp
  refine ⟨.bool false, fun W hW => ?_, hK _ ?_⟩
  · exact (covers_any (p := q) hp m n W).mono fun e w2 ⟨he, hb⟩ => ⟨by rw [he, C2], HeldN.step2 hb hW⟩
  clear hK K
  refine wpQuiet_step (fun K hK => ?_)
  go_simp
  refine ⟨_, fun _ _ => rfl, hK _ ?_⟩
  clear hK K
  refine wpQuiet_step (fun K hK => ?_)
  go_simp
  refine ⟨_, fun _ _ => rfl, hK _ ?_⟩
  clear hK K
  refine wpQuiet_step (fun K hK => ?_)
  go_simp
  refine ⟨_, fun _ _ => rfl, hK _ ?_⟩
  clear hK K
  refine wpQuiet_step (fun K hK => ?_)
  go_simp
  refine ⟨Pv p n, fun W hW => ?_, hK _ ?_⟩
  · (obtain ⟨_, ⟨u0, u1, u2, _⟩, ⟨v0, v1, v2, _⟩, _⟩ := hW; simp [go_sem, u0, u1, u2])
  clear hK K
  refine wpQuiet_step (fun K hK => ?_)
  go_simp
  refine ⟨Pv q m, fun W hW => ?_, hK _ ?_⟩
  · (obtain ⟨_, ⟨u0, u1, u2, _⟩, ⟨v0, v1, v2, _⟩, _⟩ := hW; simp [go_sem, v0, v1, v2])
  clear hK K
  refine wpQuiet_step (fun K hK => ?_)
  go_simp
  refine ⟨.bool false, fun W hW => ?_, hK _ ?_⟩
  · exact (meets_any hp hq n m W).mono fun e w2 ⟨he, hb⟩ => ⟨by rw [he, M1], HeldN.step2 hb hW⟩
  clear hK K
  refine wpQuiet_step (fun K hK => ?_)
  go_simp
  refine ⟨Pv q m, fun W hW => ?_, hK _ ?_⟩
  · (obtain ⟨_, ⟨u0, u1, u2, _⟩, ⟨v0, v1, v2, _⟩, _⟩ := hW; simp [go_sem, v0, v1, v2])
  clear hK K
  refine wpQuiet_step (fun K hK => ?_)
  go_simp
  refine ⟨Pv p n, fun W hW => ?_, hK _ ?_⟩
  · (obtain ⟨_, ⟨u0, u1, u2, _⟩, ⟨v0, v1, v2, _⟩, _⟩ := hW; simp [go_sem, u0, u1, u2])
  clear hK K
  refine wpQuiet_step (fun K hK => ?_)
  go_simp
  refine ⟨.bool false, fun W hW => ?_, hK _ ?_⟩
  · exact (meets_any hq hp m n W).mono fun e w2 ⟨he, hb⟩ => ⟨by rw [he, M2], HeldN.step2 hb hW⟩
  clear hK K
  refine wpQuiet_step (fun K hK => ?_)
  go_simp
  refine ⟨_, fun _ _ => rfl, hK _ ?_⟩
  clear hK K
  refine wpQuiet_step (fun K hK => ?_)
  go_simp
  refine ⟨_, fun _ _ => rfl, hK _ ?_⟩
  clear hK K
  refine wpQuiet_nil ?_
  intro wx HF
  clear a0 a1 a2 a3 a4 a5 a6 b0 b1 b2 b3 b4 b5 b6 c0 c1 c2 HH0 hb1
  obtain ⟨HB, ⟨a0, a1, a2, a3, a4, a5, a6⟩, ⟨b0, b1, b2, b3, b4, b5, b6⟩, c0, c1, c2⟩ := HF
  go_wp2_with fail
  refine (covers_any (p := p) hq n m _).mono ?_
  rintro e w2 ⟨rfl, hb2⟩
  obtain ⟨hc2, hf2⟩ := bcell hb2
  have hs2 := hb2.size
  (try simp at hs2)
  have z2x0 : w.heap.size < w2.heap.size := by omega
  have z2x1 : w.heap.size + 1 < w2.heap.size := by omega
  have z2x2 : w.heap.size + 1 + 1 < w2.heap.size := by omega
  go_wp2_with fail
  refine (covers_any (p := p) hq n m _).mono ?_
  rintro e w3 ⟨rfl, hb3⟩
  obtain ⟨hc3, hf3⟩ := bcell hb3
  have hs3 := hb3.size
  (try simp at hs3)
  have z3x0 : w.heap.size < w3.heap.size := by omega
  have z3x1 : w.heap.size + 1 < w3.heap.size := by omega
  have z3x2 : w.heap.size + 1 + 1 < w3.heap.size := by omega
  go_wp2_with fail
  refine (meets_any hp hq n m _).mono ?_
  rintro e w4 ⟨rfl, hb4⟩
  obtain ⟨hc4, hf4⟩ := bcell hb4
  have hs4 := hb4.size
  (try simp at hs4)
  have z4x0 : w.heap.size < w4.heap.size := by omega
  have z4x1 : w.heap.size + 1 < w4.heap.size := by omega
  have z4x2 : w.heap.size + 1 + 1 < w4.heap.size := by omega
  go_wp2_with fail
  refine (has_any (p := p) ha n _).mono ?_
  rintro e w5 ⟨rfl, hb5⟩
  obtain ⟨hc5, hf5⟩ := bcell hb5
  have hs5 := hb5.size
  (try simp at hs5)
  have z5x0 : w.heap.size < w5.heap.size := by omega
  have z5x1 : w.heap.size + 1 < w5.heap.size := by omega
  have z5x2 : w.heap.size + 1 + 1 < w5.heap.size := by omega
  go_wp2_with fail
  refine (has_any (p := q) ha m _).mono ?_
  rintro e w6 ⟨rfl, hb6⟩
  obtain ⟨hc6, hf6⟩ := bcell hb6
  have hs6 := hb6.size
  (try simp at hs6)
  have z6x0 : w.heap.size < w6.heap.size := by omega
  have z6x1 : w.heap.size + 1 < w6.heap.size := by omega
  have z6x2 : w.heap.size + 1 + 1 < w6.heap.size := by omega
  go_wp2_with fail
  refine (halves_any hp n _).mono ?_
  rintro e w7 ⟨rfl, hb7⟩
  obtain ⟨hc7, hf7⟩ := bcell hb7
  have hs7 := hb7.size
  (try simp at hs7)
  have z7x0 : w.heap.size < w7.heap.size := by omega
  have z7x1 : w.heap.size + 1 < w7.heap.size := by omega
  have z7x2 : w.heap.size + 1 + 1 < w7.heap.size := by omega
  have y1x0 : w.heap.size < w7.heap.size + 1 := by omega
  have y2x0 : w.heap.size < w7.heap.size + 1 + 1 := by omega
  have y1x1 : w.heap.size + 1 < w7.heap.size + 1 := by omega
  have y2x1 : w.heap.size + 1 < w7.heap.size + 1 + 1 := by omega
  have y1x2 : w.heap.size + 1 + 1 < w7.heap.size + 1 := by omega
  have y2x2 : w.heap.size + 1 + 1 < w7.heap.size + 1 + 1 := by omega
  have y3 : w7.heap.size < w7.heap.size + 1 + 1 := by omega
  go_wp2_with fail
  refine (sound_any hp n _).mono ?_
  rintro e w8 ⟨rfl, hb8⟩
  obtain ⟨hc8, hf8⟩ := bcell hb8
  have hs8 := hb8.size
  (try simp at hs8)
  have z8x0 : w.heap.size < w8.heap.size := by omega
  have z8x1 : w.heap.size + 1 < w8.heap.size := by omega
  have z8x2 : w.heap.size + 1 + 1 < w8.heap.size := by omega
  have z8x3 : w7.heap.size < w8.heap.size := by omega
  have z8x4 : w7.heap.size + 1 < w8.heap.size := by omega
  go_wp2_with fail
  go_ret
  exact ⟨rfl, (chainAA (chain (chain (chain (chain (chain (chain HB hb2) hb3) hb4) hb5) hb6) hb7) hb8)⟩
end Go.Proofs.Ytimlcfklmghdhaa
