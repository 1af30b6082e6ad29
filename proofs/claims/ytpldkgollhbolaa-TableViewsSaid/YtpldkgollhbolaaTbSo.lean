/-
  Contracts of the orders that a table's leases are sorted by, in the form that the library's sort asks: new memory and draws, nothing else. No condition.
-/
import Derived.Test.YtpldkgollhbolaaTbZ
import Derived.Test.YtpldkgollhbolaaTbSo0
import Derived.Shelf.SlSortCmp.NoneTotal
namespace Go.Proofs.Ytpldkgollhbolaa
open Go.RowKit Go.Joins Go.Maps

variable {w w' V W W' : World}
/-- new memory and draws, nothing else -/
def Grew (w w' : World) : Prop := Below w.heap.size w w' ∧ w.drawn ≤ w'.drawn
theorem Grew.refl (w : World) : Grew w w := ⟨Below.refl _ _, Nat.le_refl _⟩
theorem Grew.trans {a b c : World} (h : Grew a b) (k : Grew b c) : Grew a c := ⟨chain h.1 k.1, Nat.le_trans h.2 k.2⟩
theorem grew_alloc (w : World) (o : Obj) : Grew w (w.alloc o) := ⟨below_alloc w o, Nat.le_refl _⟩
theorem grew_drew (w : World) : Grew w w.drew := ⟨below_drew w, Nat.le_succ _⟩
theorem Grew.grow (h : Grew w w') : ∃ q os, w' = Go.Sort.grow (w.drewN q) os := by
  refine ⟨w'.drawn - w.drawn, w'.heap.extract w.heap.size w'.heap.size, ?_⟩
  obtain ⟨hb, hd⟩ := h
  obtain ⟨heap, tape, drawn, os, output⟩ := w
  obtain ⟨heap', tape', drawn', os', output'⟩ := w'
  have h1 := hb.os
  have h2 := hb.tape
  have h3 := hb.output
  have h4 := hb.size
  have h5 := hb.block
  simp only at h1 h2 h3 h4 h5 hd
  subst h1 h2 h3
  unfold Go.Sort.grow World.drewN
  simp only
  congr 1
  · apply Array.ext_getElem?
    intro i
    rw [Array.getElem?_append]
    split
    · exact h5 i (by assumption)
    · rw [Array.getElem?_extract]
      split
      · congr 1; omega
      · rw [Array.getElem?_eq_none]; omega
  · omega
def GivesG (v : Value) (w : World) (e : Ending) (w' : World) : Prop := e = .returned v ∧ Grew w w'
theorem cmpU_same (x y : Int) (w : World) : Calls Try.prog 47 #[.int .u64 x, .int .u64 y] w (Same (.int .i64 (cmpI x y)) w) := by
  rcases Int.lt_trichotomy x y with h | h | h
  · have H := hide (cmpI_lt h)
    go_enter Try.func47, Try.ntmps47
    go_wp2
    go_ret
    exact ⟨congrArg Ending.returned (i64_eq H.out.symm), rfl⟩
  · subst h
    have H := hide (cmpI_eq x)
    go_enter Try.func47, Try.ntmps47
    go_wp2
    go_ret
    exact ⟨congrArg Ending.returned (i64_eq H.out.symm), rfl⟩
  · have H := hide (cmpI_gt h)
    go_enter Try.func47, Try.ntmps47
    go_wp2
    go_ret
    exact ⟨congrArg Ending.returned (i64_eq H.out.symm), rfl⟩
theorem cmpS_words (a b : Nat) : cmpS a b = if hi a = hi b then cmpI (lo a : Nat) (lo b : Nat) else cmpI (hi a : Nat) (hi b : Nat) := by
  rw [cmpS_cmpI]
  unfold cmpI hi lo
  split
  · repeat' split
    all_goals omega
  · repeat' split
    all_goals omega
set_option maxHeartbeats 400000 in
theorem cmpG_any (a b : Nat) (w : World) : Calls Try.prog 30 #[A a, A b] w (GivesG (.int .i64 (cmpS a b)) w) := by
  have D := cmpS_words a b
  by_cases h : hi a = hi b
  · rw [if_pos h] at D
    have H := hide D
    have K : (((hi a : Nat) : Int) != ((hi b : Nat) : Int)) = false := by rw [h]; simp
    clear h D
    go_enter Try.func30, Try.ntmps30
    go_wp2_with (go_at_call 47; refine (cmpU_same _ _ _).mono ?_; rintro e w' ⟨rfl, rfl⟩)
    go_ret
    exact ⟨congrArg Ending.returned (i64_eq H.out.symm), (grew_alloc _ _).trans (grew_alloc _ _)⟩
  · rw [if_neg h] at D
    have H := hide D
    have K : (((hi a : Nat) : Int) != ((hi b : Nat) : Int)) = true := by simp; omega
    clear h D
    go_enter Try.func30, Try.ntmps30
    go_wp2_with (go_at_call 47; refine (cmpU_same _ _ _).mono ?_; rintro e w' ⟨rfl, rfl⟩)
    go_ret
    exact ⟨congrArg Ending.returned (i64_eq H.out.symm), (grew_alloc _ _).trans (grew_alloc _ _)⟩
def PG (w : World) (p : Nat) (n : Int) (q : Nat) (m : Int) (W : World) : Prop := PB w p n q m W ∧ w.drawn ≤ W.drawn
theorem PG.step {p : Nat} {n : Int} {q : Nat} {m : Int} {W2 : World} (h : PG w p n q m W) (hb : Grew W W2) : PG w p n q m W2 := ⟨h.1.step hb.1, Nat.le_trans h.2 hb.2⟩
theorem PG.all {p : Nat} {n : Int} {q : Nat} {m : Int} (h : PG w p n q m W) : PG w p n q m W ∧ W.cell? ⟨w.heap.size, 0, none⟩ = some (.int .u64 (hi p : Nat)) ∧ W.cell? ⟨w.heap.size, 1, none⟩ = some (.int .u64 (lo p : Nat)) ∧ W.cell? ⟨w.heap.size, 2, none⟩ = some (.int .i64 n) ∧
    W.cell? ⟨w.heap.size + 1, 0, none⟩ = some (.int .u64 (hi q : Nat)) ∧ W.cell? ⟨w.heap.size + 1, 1, none⟩ = some (.int .u64 (lo q : Nat)) ∧ W.cell? ⟨w.heap.size + 1, 2, none⟩ = some (.int .i64 m) := ⟨h, h.1.all.2⟩
set_option maxRecDepth 100000 in
set_option maxHeartbeats 2000000 in
theorem compareG_any (k : Int) (p : Nat) (n : Int) (j : Int) (q : Nat) (m : Int) (w : World) :
    Calls Try.prog 11 #[.int .i64 k, Pv p n, .int .i64 j, Pv q m] w (GivesG (.int .i64 (compareS k p n j q m)) w) := by
  have R := hide (show or3 (cmpI k j) (cmpS p q) (cmpI n m) = compareS k p n j q m from rfl)
  generalize compareS k p n j q m = res at *
  have H : PG w p n q m ((w.alloc (.cells #[.int .u64 (hi p : Nat), .int .u64 (lo p : Nat), .int .i64 n] 33)).alloc (.cells #[.int .u64 (hi q : Nat), .int .u64 (lo q : Nat), .int .i64 m] 33)) := ⟨pb_new w p n q m 33, Nat.le_refl _⟩
  go_enter Try.func11, Try.ntmps11
  go_wp2_with fail
  generalize (w.alloc (.cells #[.int .u64 (hi p : Nat), .int .u64 (lo p : Nat), .int .i64 n] 33)).alloc (.cells #[.int .u64 (hi q : Nat), .int .u64 (lo q : Nat), .int .i64 m] 33) = V at *
  obtain ⟨_, a0, a1, a2, b0, b1, b2⟩ := H.all
  go_region_held3 (fun W => PG w p n q m W ∧ W.cell? ⟨w.heap.size, 0, none⟩ = some (.int .u64 (hi p : Nat)) ∧ W.cell? ⟨w.heap.size, 1, none⟩ = some (.int .u64 (lo p : Nat)) ∧ W.cell? ⟨w.heap.size, 2, none⟩ = some (.int .i64 n) ∧
      W.cell? ⟨w.heap.size + 1, 0, none⟩ = some (.int .u64 (hi q : Nat)) ∧ W.cell? ⟨w.heap.size + 1, 1, none⟩ = some (.int .u64 (lo q : Nat)) ∧ W.cell? ⟨w.heap.size + 1, 2, none⟩ = some (.int .i64 m))
    (first
      | exact (H.step (grew_drew _)).all
      | exact H2.all
      | exact (H2.step (grew_alloc _ _)).all)
    (first
      | (go_at_call 29; refine (compareI_any _ _ _).mono ?_; rintro e w2 ⟨rfl, rfl⟩)
      | (go_at_call 30; refine (cmpG_any p q _).mono ?_; rintro e w2 ⟨rfl, hb2⟩; have H2 := (H.step (grew_drew _)).step hb2)
      | (go_at_call 28; refine (or_any _ (cmpI k j) (cmpS p q) (cmpI n m) _ (by simp [go_sem]) (by simp [go_sem]) (by simp [go_sem])).mono ?_; rintro e w5 ⟨rfl, rfl⟩))
  go_wp2
  go_ret
  exact ⟨congrArg Ending.returned (i64_eq R.out), (H2.step (grew_alloc _ _)).1.1, (H2.step (grew_alloc _ _)).2⟩
end Go.Proofs.Ytpldkgollhbolaa
