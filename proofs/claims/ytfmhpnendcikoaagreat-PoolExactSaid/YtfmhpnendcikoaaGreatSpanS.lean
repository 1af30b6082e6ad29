/-
  Contracts of isRange, apart, next, steps and wider: what each returns for every value of the types, and that no memory that existed is changed. Condition of each: the words are words of 64 bits (every value of the types is such).
-/
import Derived.Test.YtfmhpnendcikoaaGreatSpanAddr
import Derived.Test.YtfmhpnendcikoaaGreatSpanM
namespace Go.Proofs.YtfmhpnendcikoaaGreat
open Go.RowKit Go.Joins

/-- a range as the program holds it -/
abbrev RV (x : Rg) : Value := Rv x.1 x.2
theorem one_words : hi 1 = 0 ∧ lo 1 = 1 := by decide
theorem fits_one : Fits 1 := by unfold Fits; decide
theorem A_one : Value.agg #[.int .u64 0, .int .u64 1] = A 1 := rfl
theorem cmp_le (a b : Nat) : decide (cmpS a b ≤ 0) = decide (a ≤ b) := by
  unfold cmpS
  by_cases h : a < b
  · rw [if_pos h]; simp; omega
  · rw [if_neg h]
    by_cases k : b < a
    · rw [if_pos k]; simp; omega
    · rw [if_neg k]; simp; omega

set_option maxHeartbeats 400000 in
theorem isRange_any (x : Rg) (w : World) :
    Calls Tryz.prog 65 #[RV x] w (Gives (.bool (okR x)) w) := by
  obtain ⟨a, b⟩ := x
  have H := hide (cmp_le a b)
  go_enter Tryz.func65, Tryz.ntmps65
  go_wp2_with (go_at_call 18; refine (cmp_any _ _ _).mono ?_; rintro e w1 ⟨rfl, hb1⟩)
  go_ret
  exact ⟨congrArg Ending.returned (bool_eq H.out), chain (below_alloc _ _) hb1⟩

theorem inc_any {a : Nat} (ha : Fits a) (w : World) : Calls Tryz.prog 50 #[A a, .agg #[.int .u64 0, .int .u64 1]] w (Gives (.tuple #[A (addS a 1), .bool (addO a 1)]) w) := add_any ha fits_one w
theorem dec_any {a : Nat} (ha : Fits a) (w : World) : Calls Tryz.prog 52 #[A a, .agg #[.int .u64 0, .int .u64 1]] w (Gives (.tuple #[A (subS a 1), .bool (subO a 1)]) w) := sub_any ha fits_one w

/-- two words in a block -/
def Two (g a : Nat) (W : World) : Prop := g < W.heap.size ∧ W.cell? ⟨g, 0, none⟩ = some (.int .u64 (hi a : Nat)) ∧ W.cell? ⟨g, 1, none⟩ = some (.int .u64 (lo a : Nat)) ∧ W.frozen? ⟨g, 0, none⟩ = false ∧ W.frozen? ⟨g, 1, none⟩ = false
theorem Two.step {g a : Nat} {W w2 : World} (h : Two g a W) (hb : Below W.heap.size W w2) : Two g a w2 :=
  ⟨Nat.lt_of_lt_of_le h.1 hb.size, keep_cell hb h.2.1, keep_cell hb h.2.2.1, keep_free hb h.1 h.2.2.2.1, keep_free hb h.1 h.2.2.2.2⟩
theorem two_new (V : World) (a : Nat) (t : TypeId) : Two V.heap.size a (V.alloc (.cells #[.int .u64 (hi a : Nat), .int .u64 (lo a : Nat)] t)) := by
  refine ⟨by simp, ?_, ?_, ?_, ?_⟩ <;> simp [go_sem]
theorem two_cells {g a : Nat} {W : World} (h : Two g a W) : g < W.heap.size ∧ W.cell? ⟨g, 0, none⟩ = some (.int .u64 (hi a : Nat)) ∧ W.cell? ⟨g, 1, none⟩ = some (.int .u64 (lo a : Nat)) ∧ W.frozen? ⟨g, 0, none⟩ = false ∧ W.frozen? ⟨g, 1, none⟩ = false := h
theorem two_zero (V : World) (t : TypeId) : Two V.heap.size 0 (V.alloc (.cells #[.int .u64 0, .int .u64 0] t)) := two_new V 0 t

set_option maxHeartbeats 400000 in
theorem next_any {a : Nat} (ha : Fits a) (w : World) :
    Calls Tryz.prog 51 #[A a] w (Gives (.tuple #[A (addS a 1), .bool (addO a 1)]) w) := by
  have C := hide (fun W => inc_any ha W)
  go_enter Tryz.func51, Tryz.ntmps51
  go_wp2_with fail
  refine (C.out _).mono ?_
  rintro e w1 ⟨rfl, hb1⟩
  have T := two_cells ((two_zero (w.alloc (.cells #[.int .u64 (hi a : Nat), .int .u64 (lo a : Nat)] 31)) 31).step hb1)
  have HB := chain (chain (below_alloc w _) (below_alloc _ _)) hb1
  simp only [World.size_alloc] at T
  obtain ⟨t0, t1, t2, t3, t4⟩ := T
  clear hb1
  go_wp2
  refine bodyPost_ret (v := .tuple #[A (addS a 1), .bool (addO a 1)]) (by simp [results, Tryz.results51, go_sem, t1, t2]) rfl ⟨rfl, ?_⟩
  have hzB := HB.size
  repeat' (first | (with_reducible exact HB) | (with_reducible apply Below.drew) | (with_reducible apply Below.alloc) | (with_reducible apply Below.setCell))
  all_goals first | omega | (dsimp only; omega) | ((try simp); omega)

/-- four words in a block -/
def Four (g : Nat) (x : Rg) (W : World) : Prop := g < W.heap.size ∧ (W.cell? ⟨g, 0, none⟩ = some (.int .u64 (hi x.1 : Nat)) ∧ W.cell? ⟨g, 1, none⟩ = some (.int .u64 (lo x.1 : Nat)) ∧ W.cell? ⟨g, 2, none⟩ = some (.int .u64 (hi x.2 : Nat)) ∧ W.cell? ⟨g, 3, none⟩ = some (.int .u64 (lo x.2 : Nat))) ∧
  W.frozen? ⟨g, 0, none⟩ = false ∧ W.frozen? ⟨g, 1, none⟩ = false ∧ W.frozen? ⟨g, 2, none⟩ = false ∧ W.frozen? ⟨g, 3, none⟩ = false
theorem Four.step {g : Nat} {x : Rg} {W w2 : World} (h : Four g x W) (hb : Below W.heap.size W w2) : Four g x w2 :=
  ⟨Nat.lt_of_lt_of_le h.1 hb.size, ⟨keep_cell hb h.2.1.1, keep_cell hb h.2.1.2.1, keep_cell hb h.2.1.2.2.1, keep_cell hb h.2.1.2.2.2⟩, keep_free hb h.1 h.2.2.1, keep_free hb h.1 h.2.2.2.1, keep_free hb h.1 h.2.2.2.2.1, keep_free hb h.1 h.2.2.2.2.2⟩
theorem four_new (V : World) (x : Rg) (t : TypeId) : Four V.heap.size x (V.alloc (.cells #[.int .u64 (hi x.1 : Nat), .int .u64 (lo x.1 : Nat), .int .u64 (hi x.2 : Nat), .int .u64 (lo x.2 : Nat)] t)) := by
  refine ⟨by simp, ⟨?_, ?_, ?_, ?_⟩, ?_, ?_, ?_, ?_⟩ <;> simp [go_sem]
theorem Four.set {g : Nat} {x : Rg} {W : World} (h : Four g x W) {q : Go.Addr} (hq : g ≠ q.block) (u : Value) : Four g x (W.setCell q u) := by
  have hb := Below.heap_setCell W q u g hq
  have c : ∀ o, (W.setCell q u).cell? ⟨g, o, none⟩ = W.cell? ⟨g, o, none⟩ := fun o => World.cell?_of_block (w := W) hb
  have f : ∀ o, (W.setCell q u).frozen? ⟨g, o, none⟩ = W.frozen? ⟨g, o, none⟩ := fun o => World.frozen?_of_block (w := W) hb
  unfold Four
  rw [c, c, c, c, f, f, f, f]
  exact ⟨by simp; exact h.1, h.2⟩
theorem Four.put1 {g : Nat} {x : Rg} {W : World} (h : Four g x W) (y : Nat) : Four g (y, x.2) ((W.setCell ⟨g, 0, none⟩ (.int .u64 (hi y : Nat))).setCell ⟨g, 1, none⟩ (.int .u64 (lo y : Nat))) := by
  obtain ⟨h0, ⟨h1, h2, h3, h4⟩, f1, f2, f3, f4⟩ := h
  refine ⟨by simp; exact h0, ⟨?_, ?_, ?_, ?_⟩, ?_, ?_, ?_, ?_⟩
  all_goals simp [go_sem, *]
theorem Four.put2 {g : Nat} {x : Rg} {W : World} (h : Four g x W) (y : Nat) : Four g (x.1, y) ((W.setCell ⟨g, 2, none⟩ (.int .u64 (hi y : Nat))).setCell ⟨g, 3, none⟩ (.int .u64 (lo y : Nat))) := by
  obtain ⟨h0, ⟨h1, h2, h3, h4⟩, f1, f2, f3, f4⟩ := h
  refine ⟨by simp; exact h0, ⟨?_, ?_, ?_, ?_⟩, ?_, ?_, ?_, ?_⟩
  all_goals simp [go_sem, *]
theorem Four.all {g : Nat} {x : Rg} {W : World} (h : Four g x W) : g < W.heap.size ∧ (W.cell? ⟨g, 0, none⟩ = some (.int .u64 (hi x.1 : Nat)) ∧ W.cell? ⟨g, 1, none⟩ = some (.int .u64 (lo x.1 : Nat)) ∧ W.cell? ⟨g, 2, none⟩ = some (.int .u64 (hi x.2 : Nat)) ∧ W.cell? ⟨g, 3, none⟩ = some (.int .u64 (lo x.2 : Nat))) ∧
  W.frozen? ⟨g, 0, none⟩ = false ∧ W.frozen? ⟨g, 1, none⟩ = false ∧ W.frozen? ⟨g, 2, none⟩ = false ∧ W.frozen? ⟨g, 3, none⟩ = false := h
theorem four_zero (V : World) (t : TypeId) : Four V.heap.size (0, 0) (V.alloc (.cells #[.int .u64 0, .int .u64 0, .int .u64 0, .int .u64 0] t)) := four_new V (0, 0) t

set_option maxHeartbeats 400000 in
theorem steps_any {x : Rg} (hx : FitR x) (w : World) :
    Calls Tryz.prog 49 #[RV x] w (Gives (A (subS x.2 x.1)) w) := by
  have C := hide (fun W => sub_any hx.2 hx.1 W)
  go_enter Tryz.func49, Tryz.ntmps49
  go_wp2_with fail
  have T0 := two_zero (w.alloc (.cells #[.int .u64 (hi x.1 : Nat), .int .u64 (lo x.1 : Nat), .int .u64 (hi x.2 : Nat), .int .u64 (lo x.2 : Nat)] 36)) 31
  have HB0 := chain (below_alloc w (.cells #[.int .u64 (hi x.1 : Nat), .int .u64 (lo x.1 : Nat), .int .u64 (hi x.2 : Nat), .int .u64 (lo x.2 : Nat)] 36)) (below_alloc _ (.cells #[.int .u64 0, .int .u64 0] 31))
  refine (C.out _).mono ?_
  rintro e w1 ⟨rfl, hb1⟩
  have T := T0.step hb1
  have HB := chain HB0 hb1
  simp only [World.size_alloc] at T
  obtain ⟨t0, t1, t2, t3, t4⟩ := T
  clear hb1 T0 HB0
  go_wp2
  refine bodyPost_ret (v := A (subS x.2 x.1)) (by simp [results, Tryz.results49, go_sem, t0, t1, t2]) rfl ⟨rfl, ?_⟩
  have hzB := HB.size
  repeat' (first | (with_reducible exact HB) | (with_reducible apply Below.drew) | (with_reducible apply Below.alloc) | (with_reducible apply Below.setCell))
  all_goals first | omega | (dsimp only; omega) | ((try simp); omega)

theorem sub_under {a b : Nat} (h : b < a) : subO b a = true := by unfold subO; simp [h]
theorem sub_over {a b : Nat} (h : a ≤ b) : subO b a = false := by unfold subO; simp; omega
theorem cmp_one {a b : Nat} (ha : Fits a) (hb : Fits b) (h : a ≤ b) : decide (0 < cmpS (subS b a) 1) = gapB a b := by
  have e : subS b a = b - a := by unfold subS Fits at *; omega
  rw [e]
  unfold cmpS gapB
  rw [decide_eq_decide]
  repeat' split
  all_goals omega
theorem gap_no {a b : Nat} (h : b < a) : gapB a b = false := by unfold gapB; simp; omega

set_option maxHeartbeats 400000 in
theorem apart_any {a b : Nat} (ha : Fits a) (hb : Fits b) (w : World) :
    Calls Tryz.prog 66 #[A a, A b] w (Gives (.bool (gapB a b)) w) := by
  by_cases h : b < a
  · have C := hide (fun W => via (sub_any hb ha W) (v' := .tuple #[A (subS b a), .bool true]) (by rw [sub_under h]))
    have R := hide (gap_no h)
    clear h
    go_enter Tryz.func66, Tryz.ntmps66
    go_wp2_with fail
    refine (C.out _).mono ?_
    rintro e w1 ⟨rfl, hb1⟩
    have HB := chain (chain (below_alloc w (.cells #[.int .u64 (hi a : Nat), .int .u64 (lo a : Nat)] 31)) (below_alloc _ (.cells #[.int .u64 (hi b : Nat), .int .u64 (lo b : Nat)] 31))) hb1
    clear hb1
    go_wp2
    go_ret
    refine ⟨by rw [R.out]; rfl, ?_⟩
    have hzB := HB.size
    repeat' (first | (with_reducible exact HB) | (with_reducible apply Below.drew) | (with_reducible apply Below.alloc) | (with_reducible apply Below.setCell))
    all_goals first | omega | (dsimp only; omega) | ((try simp); omega)
  · have C := hide (fun W => via (sub_any hb ha W) (v' := .tuple #[A (subS b a), .bool false]) (by rw [sub_over (by omega)]))
    have G := hide (fun W => cmp_any (subS b a) 1 W)
    have R := hide (cmp_one ha hb (by omega))
    clear h
    go_enter Tryz.func66, Tryz.ntmps66
    go_wp2_with fail
    refine (C.out _).mono ?_
    rintro e w1 ⟨rfl, hb1⟩
    have HB := chain (chain (chain (below_alloc w (.cells #[.int .u64 (hi a : Nat), .int .u64 (lo a : Nat)] 31)) (below_alloc _ (.cells #[.int .u64 (hi b : Nat), .int .u64 (lo b : Nat)] 31))) hb1) (below_alloc w1 (.cells #[.int .u64 (hi (subS b a) : Nat), .int .u64 (lo (subS b a) : Nat)] 31))
    clear hb1
    go_wp2_with fail
    refine (G.out _).mono ?_
    rintro e w2 ⟨rfl, hb2⟩
    have HB2 := chain HB hb2
    clear hb2 HB
    go_wp2
    go_ret
    refine ⟨congrArg Ending.returned (bool_eq R.out), ?_⟩
    have hzB := HB2.size
    repeat' (first | (with_reducible exact HB2) | (with_reducible apply Below.drew) | (with_reducible apply Below.alloc) | (with_reducible apply Below.setCell))
    all_goals first | omega | (dsimp only; omega) | ((try simp); omega)

theorem dec_val {a : Nat} (ha : Fits a) (h : 0 < a) : subS a 1 = a - 1 := by unfold subS Fits at *; omega
theorem inc_val {a : Nat} (ha : Fits a) (h : a ≠ ones) : addS a 1 = a + 1 := by unfold addS ones Fits at *; omega
theorem inc_over {a : Nat} (ha : Fits a) : addO a 1 = decide (a = ones) := by
  unfold addO ones Fits at *
  rw [decide_eq_decide]
  omega
/-- the two blocks of wider -/
def HW (w : World) (x y : Rg) (W : World) : Prop := Below w.heap.size w W ∧ Four w.heap.size x W ∧ Four (w.heap.size + 1) y W
theorem HW.step {w : World} {x y : Rg} {W w2 : World} (h : HW w x y W) (hb : Below W.heap.size W w2) : HW w x y w2 := ⟨h.1.trans (hb.mono h.1.size), h.2.1.step hb, h.2.2.step hb⟩
theorem hw_new (w : World) (x : Rg) (t : TypeId) : HW w x (0, 0) ((w.alloc (.cells #[.int .u64 (hi x.1 : Nat), .int .u64 (lo x.1 : Nat), .int .u64 (hi x.2 : Nat), .int .u64 (lo x.2 : Nat)] t)).alloc (.cells #[.int .u64 0, .int .u64 0, .int .u64 0, .int .u64 0] t)) := by
  have h := four_new w x t
  generalize hV : w.alloc (.cells #[.int .u64 (hi x.1 : Nat), .int .u64 (lo x.1 : Nat), .int .u64 (hi x.2 : Nat), .int .u64 (lo x.2 : Nat)] t) = V at h
  have hb : Below w.heap.size w V := hV ▸ below_alloc _ _
  have hs : V.heap.size = w.heap.size + 1 := by rw [← hV]; simp
  have h2 := four_zero V t
  rw [hs] at h2
  exact ⟨chain hb (below_alloc _ _), h.step (below_alloc _ _), h2⟩
theorem HW.put1 {w : World} {x y : Rg} {W : World} (h : HW w x y W) (z : Nat) : HW w (z, x.2) y ((W.setCell ⟨w.heap.size, 0, none⟩ (.int .u64 (hi z : Nat))).setCell ⟨w.heap.size, 1, none⟩ (.int .u64 (lo z : Nat))) :=
  ⟨(h.1.setCell (by dsimp only; omega) _).setCell (by dsimp only; omega) _, h.2.1.put1 z, (h.2.2.set (by dsimp only; omega) _).set (by dsimp only; omega) _⟩
theorem HW.put2 {w : World} {x y : Rg} {W : World} (h : HW w x y W) (z : Nat) : HW w (x.1, z) y ((W.setCell ⟨w.heap.size, 2, none⟩ (.int .u64 (hi z : Nat))).setCell ⟨w.heap.size, 3, none⟩ (.int .u64 (lo z : Nat))) :=
  ⟨(h.1.setCell (by dsimp only; omega) _).setCell (by dsimp only; omega) _, h.2.1.put2 z, (h.2.2.set (by dsimp only; omega) _).set (by dsimp only; omega) _⟩
end Go.Proofs.YtfmhpnendcikoaaGreat
