/-
  The walk of SpanCounts: it returns true. Condition: the words are words of 64 bits (every value of the types is such).
-/
import Derived.Test.YtbcdmnlkbghkpaaSpanFr
import Derived.Test.YtbcdmnlkbghkpaaSpanAp
namespace Go.Proofs.Ytbcdmnlkbghkpaa
open Go.RowKit Go.Joins

/-- a row of addresses in older memory -/
def OldA (base : Nat) (p : Option Go.Addr) (l : List Nat) (W : World) : Prop := ∀ (j : Nat) (x : Nat), l[j]? = some x → ∃ b o, p = some ⟨b, o, none⟩ ∧ b < base ∧ W.cell? ⟨b, o + j * 2, none⟩ = some (.int .u64 (hi x : Nat)) ∧ W.cell? ⟨b, o + j * 2 + 1, none⟩ = some (.int .u64 (lo x : Nat))
theorem OldA.keep {base : Nat} {p : Option Go.Addr} {l : List Nat} {W W' : World} (h : OldA base p l W) (hb : Below base W W') : OldA base p l W' := by
  intro j x hj
  obtain ⟨b, o, h1, h2, h3, h4⟩ := h j x hj
  have c : ∀ o, W'.cell? ⟨b, o, none⟩ = W.cell? ⟨b, o, none⟩ := fun o => hb.cell (p := ⟨b, o, none⟩) h2
  exact ⟨b, o, h1, h2, by rw [c]; exact h3, by rw [c]; exact h4⟩
/-- a slice value that reads as a list of addresses -/
def LstA (v : Value) (l : List Nat) (W : World) : Prop := ∃ p c, v = .slice p l.length c ∧ OldA W.heap.size p l W ∧ l.length ≤ c ∧ c ≤ 9223372036854775807
/-- the boxes of a round -/
def HC15 (w : World) (g a g1 g2 y : Nat) (W : World) : Prop := HG2 w g a W ∧ Two g1 y W ∧ Two g2 y W
theorem HC15.step {w : World} {g a g1 g2 y : Nat} {W w2 : World} (h : HC15 w g a g1 g2 y W) (hb : Below W.heap.size W w2) : HC15 w g a g1 g2 y w2 := ⟨h.1.step hb, h.2.1.step hb, h.2.2.step hb⟩
theorem HC15.drew {w : World} {g a g1 g2 y : Nat} {W : World} (h : HC15 w g a g1 g2 y W) : HC15 w g a g1 g2 y { W with drawn := W.drawn + 1 } := h.step (Below.refl _ _).drew
set_option maxRecDepth 100000 in
set_option maxHeartbeats 2000000 in
theorem counts_any {v u : Value} {l : List Rg} {m : List Nat} (hf : FitL l) (fm : ∀ a ∈ m, Fits a) (w : World) (hv : Lst v l w) (hu : LstA u m w) :
    Calls Try.prog 4 #[v, u] w (Gives (.bool true) w) := by
  have AW := hide (fun W => awake_any W)
  obtain ⟨q, d, rfl, hold, d1, d2⟩ := hu
  have HV := hide hv
  obtain ⟨k1, k2⟩ : ∃ p c, v = .slice p l.length c := lst_len hv
  obtain ⟨c, rfl⟩ := k2
  obtain ⟨c1, c2, _⟩ := lst_cap hv
  by_cases h2 : (200 : Int) < (l.length : Int)
  · clear hv
    go_enter Try.func4, Try.ntmps4
    go_wp2_with fail
    refine (AW.out _).mono ?_
    rintro e w1 ⟨rfl, hb1⟩
    go_wp2
    go_ret
    exact ⟨rfl, hb1⟩
  · have hl : l.length ≤ 600 := by omega
    have hl2 : l.length ≤ 1000000 := by omega
    have CA := hide (fun W H => count_any (v := .slice k1 l.length c) hf hl2 W H)
    have RC := hide (fun W H => rcount_any (v := .slice k1 l.length c) hf hl2 W H)
    clear hv
    generalize cntV l = n at *
    generalize cntO l = no at *
    go_enter Try.func4, Try.ntmps4
    go_wp2_with fail
    refine (AW.out _).mono ?_
    rintro e w1 ⟨rfl, HB1⟩
    go_wp2_with fail
    refine (CA.out _ (HV.out.step HB1)).mono ?_
    rintro e w2 ⟨rfl, hb2⟩
    have HB2 := chain (chain HB1 hb2) (below_alloc w2 (.cells #[.int .u64 (hi n : Nat), .int .u64 (lo n : Nat)] 25))
    have T2 := two_new w2 n 25
    clear HB1 hb2
    go_wp2_with fail
    generalize w2.alloc (.cells #[.int .u64 (hi n : Nat), .int .u64 (lo n : Nat)] 25) = w3 at HB2 T2 ⊢
    generalize w2.heap.size = g5 at T2 ⊢
    refine (RC.out _ (HV.out.step HB2)).mono ?_
    rintro e w4 ⟨rfl, hb4⟩
    have HB4 := chain HB2 hb4
    have T4 := T2.step hb4
    have HB5 := chain HB4 (below_alloc w4 (.cells #[.int .u64 (hi n : Nat), .int .u64 (lo n : Nat)] 25))
    obtain ⟨t0, t1, t2, _⟩ := id T4
    clear HB2 T2 hb4 HB4 T4
    go_wp2_with fail
    clear t0 t1 t2
    go_loopw [9] (fun i wr => ∃ k : Nat, k ≤ m.length ∧ k ≤ 200 ∧ i = .int .i64 (k : Nat) ∧ Below w.heap.size w wr) (fun i _ => 200 - (intOf i).toNat)
    case atStart => exact ⟨0, Nat.zero_le _, Nat.zero_le _, rfl, HB5⟩
    case round =>
      obtain ⟨k, hk, hk2, rfl, HB⟩ := hrel
      clear HB5
      by_cases hlt : k < m.length
      · by_cases hlt2 : k < 200
        · obtain ⟨a, ha⟩ : ∃ a, m[k]? = some a := ⟨_, List.getElem?_eq_getElem hlt⟩
          have fa := fm a (List.mem_of_getElem? ha)
          obtain ⟨b, o, rfl, hbb, x1, x2⟩ := (hold.keep HB) k a ha
          have NA := hide (fun W H => nth_any (v := .slice k1 l.length c) (n := a) hf fa hl2 W H)
          have RN := hide (fun W H => rnth_any (v := .slice k1 l.length c) (n := a) hf fa hl2 W H)
          have HA := hide (fun W H => has_any (v := .slice k1 l.length c) hf hl2 a W H)
          have RH := hide (fun W H => rhas_any (v := .slice k1 l.length c) hf fa hl2 W H)
          have RK := hide (fun W H => rank_any (v := .slice k1 l.length c) hf fa hl W H)
          have RR := hide (fun W H => rrank_any (v := .slice k1 l.length c) hf fa hl2 W H)
          have KL : (k : Int) < (m.length : Int) := by omega
          have K2 : (k : Int) < 200 := by omega
          have H1 : HG2 w wr.heap.size a (wr.alloc (.cells #[.int .u64 (hi a : Nat), .int .u64 (lo a : Nat)] 25)) := ⟨chain HB (below_alloc _ _), two_new _ _ _, HB.size⟩
          clear ha fa HB
          generalize nthV l a = y at *
          generalize nthO l a = yo at *
          generalize hasB l a = h at *
          generalize rankS l a = rk at *
          go_wp2_with fail
          clear x1 x2
          generalize wr.alloc (.cells #[.int .u64 (hi a : Nat), .int .u64 (lo a : Nat)] 25) = w5 at H1 ⊢
          generalize wr.heap.size = g at H1 ⊢
          refine (NA.out _ (HV.out.step H1.1)).mono ?_
          rintro e w6 ⟨rfl, hb6⟩
          have H2 := (H1.step hb6).step (below_alloc w6 (.cells #[.int .u64 (hi y : Nat), .int .u64 (lo y : Nat)] 25))
          have Y2 := two_new w6 y 25
          have Z6 := (H1.step hb6).2.1
          obtain ⟨z0, z1, z2, _⟩ := id Z6
          clear H1 hb6 Z6
          go_wp2_with fail
          clear z0 z1 z2
          generalize w6.alloc (.cells #[.int .u64 (hi y : Nat), .int .u64 (lo y : Nat)] 25) = w7 at H2 Y2 ⊢
          generalize w6.heap.size = g1 at Y2 ⊢
          refine (RN.out _ (HV.out.step H2.1)).mono ?_
          rintro e w8 ⟨rfl, hb8⟩
          have H3 : HC15 w g a g1 w8.heap.size y (w8.alloc (.cells #[.int .u64 (hi y : Nat), .int .u64 (lo y : Nat)] 25)) := ⟨(H2.step hb8).step (below_alloc _ _), (Y2.step hb8).step (below_alloc _ _), two_new _ _ _⟩
          clear H2 Y2 hb8
          go_wp2_with fail
          generalize w8.alloc (.cells #[.int .u64 (hi y : Nat), .int .u64 (lo y : Nat)] 25) = w9 at H3 ⊢
          generalize w8.heap.size = g2 at H3 ⊢
          refine wp_region_quiet (C := HC15 w g a g1 g2 y) (by kernel_rfl) (by kernel_rfl) H3.drew (wpQuiet_step (fun K0 hK0 => ?_))
          go_simp
          refine ⟨A y, fun W hW => ?_, hK0 _ (wpQuiet_step (fun K1 hK1 => ?_))⟩
          · (obtain ⟨_, ⟨_, u0, u1, _⟩, _⟩ := hW; simp [go_sem, u0, u1])
          clear hK0 K0
          go_simp
          refine ⟨A y, fun W hW => ?_, hK1 _ (wpQuiet_step (fun K0 hK0 => ?_))⟩
          · (obtain ⟨_, _, ⟨_, u0, u1, _⟩⟩ := hW; simp [go_sem, u0, u1])
          clear hK1 K1
          go_simp
          first | (with_reducible refine hK0 _ (wpQuiet_step (fun K1 hK1 => ?_))) | (with_reducible refine ⟨_, fun _ _ => rfl, hK0 _ (wpQuiet_step (fun K1 hK1 => ?_))⟩) | (rw [if_neg (by intro e; cases e)]; with_reducible refine hK0 _ (wpQuiet_step (fun K1 hK1 => ?_)))
          clear hK0 K0
          go_simp
          first | (with_reducible refine hK1 _ (wpQuiet_step (fun K0 hK0 => ?_))) | (with_reducible refine ⟨_, fun _ _ => rfl, hK1 _ (wpQuiet_step (fun K0 hK0 => ?_))⟩) | (rw [if_neg (by intro e; cases e)]; with_reducible refine hK1 _ (wpQuiet_step (fun K0 hK0 => ?_)))
          clear hK1 K1
          go_simp
          first | (with_reducible refine hK0 _ (wpQuiet_step (fun K1 hK1 => ?_))) | (with_reducible refine ⟨_, fun _ _ => rfl, hK0 _ (wpQuiet_step (fun K1 hK1 => ?_))⟩) | (rw [if_neg (by intro e; cases e)]; with_reducible refine hK0 _ (wpQuiet_step (fun K1 hK1 => ?_)))
          clear hK0 K0
          go_simp
          first | (with_reducible refine hK1 _ (wpQuiet_step (fun K0 hK0 => ?_))) | (with_reducible refine ⟨_, fun _ _ => rfl, hK1 _ (wpQuiet_step (fun K0 hK0 => ?_))⟩) | (rw [if_neg (by intro e; cases e)]; with_reducible refine hK1 _ (wpQuiet_step (fun K0 hK0 => ?_)))
          clear hK1 K1
          go_simp
          first | (with_reducible refine hK0 _ (wpQuiet_step (fun K1 hK1 => ?_))) | (with_reducible refine ⟨_, fun _ _ => rfl, hK0 _ (wpQuiet_step (fun K1 hK1 => ?_))⟩) | (rw [if_neg (by intro e; cases e)]; with_reducible refine hK0 _ (wpQuiet_step (fun K1 hK1 => ?_)))
          clear hK0 K0
          go_simp
          first | (with_reducible refine hK1 _ (wpQuiet_step (fun K0 hK0 => ?_))) | (with_reducible refine ⟨_, fun _ _ => rfl, hK1 _ (wpQuiet_step (fun K0 hK0 => ?_))⟩) | (rw [if_neg (by intro e; cases e)]; with_reducible refine hK1 _ (wpQuiet_step (fun K0 hK0 => ?_)))
          clear hK1 K1
          go_simp
          first | (with_reducible refine hK0 _ (wpQuiet_step (fun K1 hK1 => ?_))) | (with_reducible refine ⟨_, fun _ _ => rfl, hK0 _ (wpQuiet_step (fun K1 hK1 => ?_))⟩) | (rw [if_neg (by intro e; cases e)]; with_reducible refine hK0 _ (wpQuiet_step (fun K1 hK1 => ?_)))
          clear hK0 K0
          go_simp
          first | (with_reducible refine hK1 _ (wpQuiet_step (fun K0 hK0 => ?_))) | (with_reducible refine ⟨_, fun _ _ => rfl, hK1 _ (wpQuiet_step (fun K0 hK0 => ?_))⟩) | (rw [if_neg (by intro e; cases e)]; with_reducible refine hK1 _ (wpQuiet_step (fun K0 hK0 => ?_)))
          clear hK1 K1
          go_simp
          refine ⟨A a, fun W hW => ?_, hK0 _ (wpQuiet_step (fun K1 hK1 => ?_))⟩
          · (obtain ⟨⟨_, ⟨_, u0, u1, _⟩, _⟩, _⟩ := hW; simp [go_sem, u0, u1])
          clear hK0 K0
          go_simp
          refine ⟨.bool h, fun W hW => ?_, hK1 _ (wpQuiet_step (fun K0 hK0 => ?_))⟩
          · exact (HA.out W (HV.out.step hW.1.1)).mono fun e w4 ⟨he, hb⟩ => ⟨he, HC15.step hW hb⟩
          clear hK1 K1
          go_simp
          first | (with_reducible refine hK0 _ (wpQuiet_step (fun K1 hK1 => ?_))) | (with_reducible refine ⟨_, fun _ _ => rfl, hK0 _ (wpQuiet_step (fun K1 hK1 => ?_))⟩) | (rw [if_neg (by intro e; cases e)]; with_reducible refine hK0 _ (wpQuiet_step (fun K1 hK1 => ?_)))
          clear hK0 K0
          go_simp
          refine ⟨A a, fun W hW => ?_, hK1 _ (wpQuiet_step (fun K0 hK0 => ?_))⟩
          · (obtain ⟨⟨_, ⟨_, u0, u1, _⟩, _⟩, _⟩ := hW; simp [go_sem, u0, u1])
          clear hK1 K1
          go_simp
          refine ⟨.bool h, fun W hW => ?_, hK0 _ (wpQuiet_step (fun K1 hK1 => ?_))⟩
          · exact (RH.out W (HV.out.step hW.1.1)).mono fun e w4 ⟨he, hb⟩ => ⟨he, HC15.step hW hb⟩
          clear hK0 K0
          go_simp
          first | (with_reducible refine hK1 _ (wpQuiet_step (fun K0 hK0 => ?_))) | (with_reducible refine ⟨_, fun _ _ => rfl, hK1 _ (wpQuiet_step (fun K0 hK0 => ?_))⟩) | (rw [if_neg (by intro e; cases e)]; with_reducible refine hK1 _ (wpQuiet_step (fun K0 hK0 => ?_)))
          clear hK1 K1
          go_simp
          first | (with_reducible refine hK0 _ (wpQuiet_step (fun K1 hK1 => ?_))) | (with_reducible refine ⟨_, fun _ _ => rfl, hK0 _ (wpQuiet_step (fun K1 hK1 => ?_))⟩) | (rw [if_neg (by intro e; cases e)]; with_reducible refine hK0 _ (wpQuiet_step (fun K1 hK1 => ?_)))
          clear hK0 K0
          go_simp
          first | (with_reducible refine hK1 _ (wpQuiet_step (fun K0 hK0 => ?_))) | (with_reducible refine ⟨_, fun _ _ => rfl, hK1 _ (wpQuiet_step (fun K0 hK0 => ?_))⟩) | (rw [if_neg (by intro e; cases e)]; with_reducible refine hK1 _ (wpQuiet_step (fun K0 hK0 => ?_)))
          clear hK1 K1
          go_simp
          first | (with_reducible refine hK0 _ (wpQuiet_step (fun K1 hK1 => ?_))) | (with_reducible refine ⟨_, fun _ _ => rfl, hK0 _ (wpQuiet_step (fun K1 hK1 => ?_))⟩) | (rw [if_neg (by intro e; cases e)]; with_reducible refine hK0 _ (wpQuiet_step (fun K1 hK1 => ?_)))
          clear hK0 K0
          go_simp
          refine ⟨A a, fun W hW => ?_, hK1 _ (wpQuiet_step (fun K0 hK0 => ?_))⟩
          · (obtain ⟨⟨_, ⟨_, u0, u1, _⟩, _⟩, _⟩ := hW; simp [go_sem, u0, u1])
          clear hK1 K1
          go_simp
          refine ⟨A rk, fun W hW => ?_, hK0 _ (wpQuiet_step (fun K1 hK1 => ?_))⟩
          · exact (RK.out W (HV.out.step hW.1.1)).mono fun e w4 ⟨he, hb⟩ => ⟨he, HC15.step hW hb⟩
          clear hK0 K0
          go_simp
          first | (with_reducible refine hK1 _ (wpQuiet_step (fun K0 hK0 => ?_))) | (with_reducible refine ⟨_, fun _ _ => rfl, hK1 _ (wpQuiet_step (fun K0 hK0 => ?_))⟩) | (rw [if_neg (by intro e; cases e)]; with_reducible refine hK1 _ (wpQuiet_step (fun K0 hK0 => ?_)))
          clear hK1 K1
          go_simp
          refine ⟨A a, fun W hW => ?_, hK0 _ (wpQuiet_step (fun K1 hK1 => ?_))⟩
          · (obtain ⟨⟨_, ⟨_, u0, u1, _⟩, _⟩, _⟩ := hW; simp [go_sem, u0, u1])
          clear hK0 K0
          go_simp
          refine ⟨A rk, fun W hW => ?_, hK1 _ (wpQuiet_step (fun K0 hK0 => ?_))⟩
          · exact (RR.out W (HV.out.step hW.1.1)).mono fun e w4 ⟨he, hb⟩ => ⟨he, HC15.step hW hb⟩
          clear hK1 K1
          go_simp
          first | (with_reducible refine hK0 _ (wpQuiet_step (fun K1 hK1 => ?_))) | (with_reducible refine ⟨_, fun _ _ => rfl, hK0 _ (wpQuiet_step (fun K1 hK1 => ?_))⟩) | (rw [if_neg (by intro e; cases e)]; with_reducible refine hK0 _ (wpQuiet_step (fun K1 hK1 => ?_)))
          clear hK0 K0
          go_simp
          first | (with_reducible refine hK1 _ (wpQuiet_nil ?_)) | (with_reducible refine ⟨_, fun _ _ => rfl, hK1 _ (wpQuiet_nil ?_)⟩) | (rw [if_neg (by intro e; cases e)]; with_reducible refine hK1 _ (wpQuiet_nil ?_))
          clear hK1 K1
          intro w10 H10
          go_wp2
          go_roundw
          case rel => exact ⟨k + 1, hlt, by omega, by go_num, H10.1.1⟩
          case measure => simp [intOf]; omega
        · have K2 : ¬ (k : Int) < 200 := by omega
          go_wp2
          go_ret
          exact ⟨rfl, HB⟩
      · have KL : ¬ (k : Int) < (m.length : Int) := by omega
        go_wp2
        go_ret
        exact ⟨rfl, HB⟩
end Go.Proofs.Ytbcdmnlkbghkpaa
