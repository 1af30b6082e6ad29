/-
  Contracts of lease.Compare and Meets and of the library's cmp.Compare and cmp.Or at int: what each returns for every value of the types; no memory that existed is changed. Conditions: the words are words of 64 bits (every value of the type is such).
-/
import Derived.Test.YtpldkgollhbolaaLS
namespace Go.Proofs.Ytpldkgollhbolaa
open Go.RowKit Go.Joins

set_option maxHeartbeats 400000 in
theorem compareI_any (x y : Int) (w : World) :
    Calls Try.prog 29 #[.int .i64 x, .int .i64 y] w (Same (.int .i64 (cmpI x y)) w) := by
  rcases Int.lt_trichotomy x y with h | h | h
  · have H := hide (cmpI_lt h)
    go_enter Try.func29, Try.ntmps29
    go_wp2
    go_ret
    exact ⟨congrArg Ending.returned (i64_eq H.out.symm), rfl⟩
  · subst h
    have H := hide (cmpI_eq x)
    go_enter Try.func29, Try.ntmps29
    go_wp2
    go_ret
    exact ⟨congrArg Ending.returned (i64_eq H.out.symm), rfl⟩
  · have H := hide (cmpI_gt h)
    go_enter Try.func29, Try.ntmps29
    go_wp2
    go_ret
    exact ⟨congrArg Ending.returned (i64_eq H.out.symm), rfl⟩

def or3 (x y z : Int) : Int := if x ≠ 0 then x else if y ≠ 0 then y else z
set_option maxRecDepth 100000 in
set_option maxHeartbeats 1000000 in
theorem or_any (b : Nat) (x y z : Int) (w : World) (h0 : w.cell? ⟨b, 0, none⟩ = some (.int .i64 x)) (h1 : w.cell? ⟨b, 1, none⟩ = some (.int .i64 y)) (h2 : w.cell? ⟨b, 2, none⟩ = some (.int .i64 z)) :
    Calls Try.prog 28 #[.slice (some ⟨b, 0, none⟩) 3 3] w (Same (.int .i64 (or3 x y z)) w) := by
  by_cases hx : x = 0
  · subst hx
    by_cases hy : y = 0
    · subst hy
      by_cases hz : z = 0
      · subst hz
        go_enter Try.func28, Try.ntmps28
        go_wp2_with fail
        go_loopw [8] (fun i wr => ∃ k : Nat, k ≤ 3 ∧ i = .int .i64 k ∧ wr = w) (fun i _ => 3 - (intOf i).toNat)
        case atStart => exact ⟨0, by omega, rfl, rfl⟩
        case round =>
          obtain ⟨k, hk, rfl, rfl⟩ := hrel
          have : k = 0 ∨ k = 1 ∨ k = 2 ∨ k = 3 := by omega
          rcases this with rfl | rfl | rfl | rfl
          · go_wp2
            go_roundw
            case rel => exact ⟨1, by omega, by go_num, by trivial⟩
            case measure => simp [intOf]
          · go_wp2
            go_roundw
            case rel => exact ⟨2, by omega, by go_num, by trivial⟩
            case measure => simp [intOf]
          · go_wp2
            go_roundw
            case rel => exact ⟨3, by omega, by go_num, by trivial⟩
            case measure => simp [intOf]
          · go_wp2
            go_ret
            exact ⟨rfl, rfl⟩
      · have K := hide (show or3 0 0 z = z from rfl)
        go_enter Try.func28, Try.ntmps28
        go_wp2_with fail
        go_loopw [8] (fun i wr => ∃ k : Nat, k ≤ 2 ∧ i = .int .i64 k ∧ wr = w) (fun i _ => 3 - (intOf i).toNat)
        case atStart => exact ⟨0, by omega, rfl, rfl⟩
        case round =>
          obtain ⟨k, hk, rfl, rfl⟩ := hrel
          have : k = 0 ∨ k = 1 ∨ k = 2 := by omega
          rcases this with rfl | rfl | rfl
          · go_wp2
            go_roundw
            case rel => exact ⟨1, by omega, by go_num, by trivial⟩
            case measure => simp [intOf]
          · go_wp2
            go_roundw
            case rel => exact ⟨2, by omega, by go_num, by trivial⟩
            case measure => simp [intOf]
          · go_wp2
            go_ret
            exact ⟨congrArg Ending.returned (i64_eq K.out.symm), rfl⟩
    · have K := hide (show or3 0 y z = y by unfold or3; rw [if_neg (by omega), if_pos hy])
      go_enter Try.func28, Try.ntmps28
      go_wp2_with fail
      go_loopw [8] (fun i wr => ∃ k : Nat, k ≤ 1 ∧ i = .int .i64 k ∧ wr = w) (fun i _ => 3 - (intOf i).toNat)
      case atStart => exact ⟨0, by omega, rfl, rfl⟩
      case round =>
        obtain ⟨k, hk, rfl, rfl⟩ := hrel
        have : k = 0 ∨ k = 1 := by omega
        rcases this with rfl | rfl
        · go_wp2
          go_roundw
          case rel => exact ⟨1, by omega, by go_num, by trivial⟩
          case measure => simp [intOf]
        · go_wp2
          go_ret
          exact ⟨congrArg Ending.returned (i64_eq K.out.symm), rfl⟩
  · have K := hide (show or3 x y z = x by unfold or3; rw [if_pos hx])
    go_enter Try.func28, Try.ntmps28
    go_wp2_with fail
    go_loopw [8] (fun i wr => i = .int .i64 0 ∧ wr = w) (fun i _ => 3 - (intOf i).toNat)
    case atStart => exact ⟨rfl, rfl⟩
    case round =>
      obtain ⟨rfl, rfl⟩ := hrel
      go_wp2
      go_ret
      exact ⟨congrArg Ending.returned (i64_eq K.out.symm), rfl⟩

def PV (g p : Nat) (n : Int) (W : World) : Prop := W.cell? ⟨g, 0, none⟩ = some (.int .u64 (hi p : Nat)) ∧ W.cell? ⟨g, 1, none⟩ = some (.int .u64 (lo p : Nat)) ∧ W.cell? ⟨g, 2, none⟩ = some (.int .i64 n)
theorem PV.step {g p : Nat} {n : Int} {W w2 : World} (h : PV g p n W) (hb : Below W.heap.size W w2) : PV g p n w2 := ⟨keep_cell hb h.1, keep_cell hb h.2.1, keep_cell hb h.2.2⟩
theorem pv_new (V : World) (p : Nat) (n : Int) (t : TypeId) : PV V.heap.size p n (V.alloc (.cells #[.int .u64 (hi p : Nat), .int .u64 (lo p : Nat), .int .i64 n] t)) := by
  refine ⟨?_, ?_, ?_⟩ <;> simp [go_sem]
def PB (w : World) (p : Nat) (n : Int) (q : Nat) (m : Int) (W : World) : Prop := Below w.heap.size w W ∧ PV w.heap.size p n W ∧ PV (w.heap.size + 1) q m W
theorem PB.step {w : World} {p : Nat} {n : Int} {q : Nat} {m : Int} {W w2 : World} (h : PB w p n q m W) (hb : Below W.heap.size W w2) : PB w p n q m w2 :=
  ⟨h.1.trans (hb.mono h.1.size), h.2.1.step hb, h.2.2.step hb⟩
theorem pb_new (w : World) (p : Nat) (n : Int) (q : Nat) (m : Int) (t : TypeId) : PB w p n q m ((w.alloc (.cells #[.int .u64 (hi p : Nat), .int .u64 (lo p : Nat), .int .i64 n] t)).alloc (.cells #[.int .u64 (hi q : Nat), .int .u64 (lo q : Nat), .int .i64 m] t)) := by
  refine ⟨(below_alloc _ _).trans ((below_alloc _ _).mono (by simp)), (pv_new w p n t).step (below_alloc _ _), ?_⟩
  have := pv_new (w.alloc (.cells #[.int .u64 (hi p : Nat), .int .u64 (lo p : Nat), .int .i64 n] t)) q m t
  simpa using this
theorem PB.all {w : World} {p : Nat} {n : Int} {q : Nat} {m : Int} {W : World} (h : PB w p n q m W) : PB w p n q m W ∧ W.cell? ⟨w.heap.size, 0, none⟩ = some (.int .u64 (hi p : Nat)) ∧ W.cell? ⟨w.heap.size, 1, none⟩ = some (.int .u64 (lo p : Nat)) ∧ W.cell? ⟨w.heap.size, 2, none⟩ = some (.int .i64 n) ∧
    W.cell? ⟨w.heap.size + 1, 0, none⟩ = some (.int .u64 (hi q : Nat)) ∧ W.cell? ⟨w.heap.size + 1, 1, none⟩ = some (.int .u64 (lo q : Nat)) ∧ W.cell? ⟨w.heap.size + 1, 2, none⟩ = some (.int .i64 m) := ⟨h, h.2.1.1, h.2.1.2.1, h.2.1.2.2, h.2.2.1, h.2.2.2.1, h.2.2.2.2⟩
theorem cmp_or (a b c : Int) : or3 a b c = if a ≠ 0 then a else if b ≠ 0 then b else c := rfl

set_option maxRecDepth 100000 in
set_option maxHeartbeats 2000000 in
theorem compare3_any (k : Int) (p : Nat) (n : Int) (j : Int) (q : Nat) (m : Int) (w : World) :
    Calls Try.prog 11 #[.int .i64 k, Pv p n, .int .i64 j, Pv q m] w (Gives (.int .i64 (compareS k p n j q m)) w) := by
  have R := hide (show or3 (cmpI k j) (cmpS p q) (cmpI n m) = compareS k p n j q m from rfl)
  generalize compareS k p n j q m = res at *
  have H := pb_new w p n q m 33
  go_enter Try.func11, Try.ntmps11
  go_wp2_with fail
  generalize (w.alloc (.cells #[.int .u64 (hi p : Nat), .int .u64 (lo p : Nat), .int .i64 n] 33)).alloc (.cells #[.int .u64 (hi q : Nat), .int .u64 (lo q : Nat), .int .i64 m] 33) = V at *
  obtain ⟨_, ⟨a0, a1, a2⟩, b0, b1, b2⟩ := id H
  go_region_held3 (fun W => PB w p n q m W ∧ W.cell? ⟨w.heap.size, 0, none⟩ = some (.int .u64 (hi p : Nat)) ∧ W.cell? ⟨w.heap.size, 1, none⟩ = some (.int .u64 (lo p : Nat)) ∧ W.cell? ⟨w.heap.size, 2, none⟩ = some (.int .i64 n) ∧
      W.cell? ⟨w.heap.size + 1, 0, none⟩ = some (.int .u64 (hi q : Nat)) ∧ W.cell? ⟨w.heap.size + 1, 1, none⟩ = some (.int .u64 (lo q : Nat)) ∧ W.cell? ⟨w.heap.size + 1, 2, none⟩ = some (.int .i64 m))
    (first
      | exact (H.step (below_drew _)).all
      | exact H2.all
      | exact (H2.step (below_alloc _ _)).all)
    (first
      | (go_at_call 29; refine (compareI_any _ _ _).mono ?_; rintro e w2 ⟨rfl, rfl⟩)
      | (go_at_call 30; refine (cmp_any p q _).mono ?_; rintro e w2 ⟨rfl, hb2⟩; have H2 := (H.step (below_drew _)).step hb2)
      | (go_at_call 28; refine (or_any _ (cmpI k j) (cmpS p q) (cmpI n m) _ (by simp [go_sem]) (by simp [go_sem]) (by simp [go_sem])).mono ?_; rintro e w5 ⟨rfl, rfl⟩))
  go_wp2
  go_ret
  exact ⟨congrArg Ending.returned (i64_eq R.out), (H2.step (below_alloc _ _)).1⟩

set_option maxRecDepth 100000 in
set_option maxHeartbeats 2000000 in
theorem meet_any (k : Int) {p : Nat} (hp : Fits p) (n : Int) (j : Int) {q : Nat} (hq : Fits q) (m : Int) (w : World) :
    Calls Try.prog 12 #[.int .i64 k, Pv p n, .int .i64 j, Pv q m] w (Gives (.bool (meetS k p n j q m)) w) := by
  have R1 := hide (fun W => right_any k hp n W)
  have R2 := hide (fun W => right_any j hq m W)
  have MM := hide (fun W => meets_any hp hq n m W)
  have D : Hid (meetS k p n j q m = ((rightS k p n && rightS j q m) && (decide (k = 1 ↔ j = 1) && meetsS p n q m))) := hide rfl
  generalize rightS k p n = r1 at *
  generalize rightS j q m = r2 at *
  generalize meetsS p n q m = mm at *
  generalize meetS k p n j q m = res at *
  have H := pb_new w p n q m 33
  cases r1 with
  | false =>
    have K := hide (show res = false by rw [D.out]; rfl)
    clear D
    go_enter Try.func12, Try.ntmps12
    go_wp2_with fail
    generalize (w.alloc (.cells #[.int .u64 (hi p : Nat), .int .u64 (lo p : Nat), .int .i64 n] 33)).alloc (.cells #[.int .u64 (hi q : Nat), .int .u64 (lo q : Nat), .int .i64 m] 33) = V at *
    obtain ⟨_, ⟨a0, a1, a2⟩, b0, b1, b2⟩ := id H
    go_wp2_with fail
    refine (R1.out _).mono ?_
    rintro e w1 ⟨rfl, hb1⟩
    have H1 := H.step hb1
    clear a0 a1 a2 b0 b1 b2
    go_wp2
    go_ret
    exact ⟨congrArg Ending.returned (bool_eq K.out.symm), H1.1⟩
  | true =>
    cases r2 with
    | false =>
      have K := hide (show res = false by rw [D.out]; rfl)
      clear D
      go_enter Try.func12, Try.ntmps12
      go_wp2_with fail
      generalize (w.alloc (.cells #[.int .u64 (hi p : Nat), .int .u64 (lo p : Nat), .int .i64 n] 33)).alloc (.cells #[.int .u64 (hi q : Nat), .int .u64 (lo q : Nat), .int .i64 m] 33) = V at *
      obtain ⟨_, ⟨a0, a1, a2⟩, b0, b1, b2⟩ := id H
      go_wp2_with fail
      refine (R1.out _).mono ?_
      rintro e w1 ⟨rfl, hb1⟩
      have H1 := H.step hb1
      clear a0 a1 a2 b0 b1 b2
      obtain ⟨_, ⟨a0, a1, a2⟩, b0, b1, b2⟩ := id H1
      go_wp2_with fail
      refine (R2.out _).mono ?_
      rintro e w2 ⟨rfl, hb2⟩
      have H2 := H1.step hb2
      clear a0 a1 a2 b0 b1 b2
      go_wp2
      go_ret
      exact ⟨congrArg Ending.returned (bool_eq K.out.symm), H2.1⟩
    | true =>
      have D2 := hide (show res = (decide (k = 1 ↔ j = 1) && mm) by rw [D.out]; rfl)
      clear D
      by_cases hkj : k = 1 ↔ j = 1
      · have K := hide (show res = mm by rw [D2.out, decide_eq_true hkj]; rfl)
        have E : (k == 1) = (j == 1) := by
          rw [Bool.eq_iff_iff, beq_iff_eq, beq_iff_eq]; exact hkj
        clear D2
        go_enter Try.func12, Try.ntmps12
        go_wp2_with fail
        generalize (w.alloc (.cells #[.int .u64 (hi p : Nat), .int .u64 (lo p : Nat), .int .i64 n] 33)).alloc (.cells #[.int .u64 (hi q : Nat), .int .u64 (lo q : Nat), .int .i64 m] 33) = V at *
        obtain ⟨_, ⟨a0, a1, a2⟩, b0, b1, b2⟩ := id H
        go_wp2_with fail
        refine (R1.out _).mono ?_
        rintro e w1 ⟨rfl, hb1⟩
        have H1 := H.step hb1
        clear a0 a1 a2 b0 b1 b2
        obtain ⟨_, ⟨a0, a1, a2⟩, b0, b1, b2⟩ := id H1
        go_wp2_with fail
        refine (R2.out _).mono ?_
        rintro e w2 ⟨rfl, hb2⟩
        have H2 := H1.step hb2
        clear a0 a1 a2 b0 b1 b2
        obtain ⟨_, ⟨a0, a1, a2⟩, b0, b1, b2⟩ := id H2
        go_wp2_with fail
        refine (MM.out _).mono ?_
        rintro e w3 ⟨rfl, hb3⟩
        have H3 := H2.step hb3
        clear a0 a1 a2 b0 b1 b2
        go_wp2
        go_ret
        exact ⟨congrArg Ending.returned (bool_eq K.out.symm), H3.1⟩
      · have K := hide (show res = false by rw [D2.out, decide_eq_false hkj]; rfl)
        have E : ¬ (k == 1) = (j == 1) := by
          rw [Bool.eq_iff_iff, beq_iff_eq, beq_iff_eq]; exact hkj
        clear D2
        go_enter Try.func12, Try.ntmps12
        go_wp2_with fail
        generalize (w.alloc (.cells #[.int .u64 (hi p : Nat), .int .u64 (lo p : Nat), .int .i64 n] 33)).alloc (.cells #[.int .u64 (hi q : Nat), .int .u64 (lo q : Nat), .int .i64 m] 33) = V at *
        obtain ⟨_, ⟨a0, a1, a2⟩, b0, b1, b2⟩ := id H
        go_wp2_with fail
        refine (R1.out _).mono ?_
        rintro e w1 ⟨rfl, hb1⟩
        have H1 := H.step hb1
        clear a0 a1 a2 b0 b1 b2
        obtain ⟨_, ⟨a0, a1, a2⟩, b0, b1, b2⟩ := id H1
        go_wp2_with fail
        refine (R2.out _).mono ?_
        rintro e w2 ⟨rfl, hb2⟩
        have H2 := H1.step hb2
        clear a0 a1 a2 b0 b1 b2
        obtain ⟨_, ⟨a0, a1, a2⟩, b0, b1, b2⟩ := id H2
        go_wp2
        go_ret
        exact ⟨congrArg Ending.returned (bool_eq K.out.symm), H2.1⟩
end Go.Proofs.Ytpldkgollhbolaa
