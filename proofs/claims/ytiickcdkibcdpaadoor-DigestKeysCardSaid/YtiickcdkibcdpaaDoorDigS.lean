/-
  The contract of split: a block's words. Condition: the block has 64 bytes.
-/
import Derived.Test.YtiickcdkibcdpaaDoorDigR
namespace Go.Proofs.YtiickcdkibcdpaaDoor
open Go.RowKit Go.Joins

/-- a row of sixteen words in a block -/
def Row (g : Nat) (ws : List Nat) (W : World) : Prop := ws.length = 16 ∧ g < W.heap.size ∧ (∀ j, j < 16 → W.cell? ⟨g, j, none⟩ = some (U (ws.getD j 0))) ∧ ∀ j, W.frozen? ⟨g, j, none⟩ = false
theorem Row.step {g : Nat} {ws : List Nat} {W w2 : World} (h : Row g ws W) (hb : Below W.heap.size W w2) : Row g ws w2 :=
  ⟨h.1, Nat.lt_of_lt_of_le h.2.1 hb.size, fun j hj => keep_cell hb (h.2.2.1 j hj), fun j => keep_free hb h.2.1 (h.2.2.2 j)⟩
theorem Row.set {g : Nat} {ws : List Nat} {W : World} (h : Row g ws W) {j x : Nat} (hj : j < 16) : Row g (ws.set j x) (W.setCell ⟨g, j, none⟩ (U x)) := by
  obtain ⟨h1, h2, h3, h4⟩ := h
  refine ⟨by rw [List.length_set, h1], by simpa using h2, fun i hi => ?_, fun i => by simpa using h4 i⟩
  rw [getD_set]
  by_cases e : j = i
  · subst e
    rw [if_pos ⟨rfl, by omega⟩]
    simp [go_sem, h3 j hj]
  · rw [if_neg (by omega)]
    have h := World.cell?_setCells_out g [U x] j W ⟨g, i, none⟩ (fun _ _ => by simp; omega)
    exact h.trans (h3 i hi)
theorem row_new (W : World) (t : TypeId) : Row W.heap.size (List.replicate 16 0) (W.alloc (.cells (Array.replicate 16 (U 0)) t)) := by
  refine ⟨rfl, by simp, fun j hj => ?_, fun j => ?_⟩
  · rw [List.getD_eq_getElem?_getD, List.getElem?_replicate, if_pos hj]
    simp [go_sem, hj]
  · simp [go_sem]

theorem Row.other {g g' : Nat} {ws : List Nat} {W : World} (h : Row g ws W) (hn : g ≠ g') (j : Nat) (v : Value) : Row g ws (W.setCell ⟨g', j, none⟩ v) := by
  obtain ⟨h1, h2, h3, h4⟩ := h
  refine ⟨h1, by simpa using h2, fun i hi => ?_, fun i => by simpa using h4 i⟩
  have h := World.cell?_setCells_out g' [v] j W ⟨g, i, none⟩ (fun hg _ => absurd hg hn)
  exact h.trans (h3 i hi)
theorem list16 {α : Type} {l : List α} (h : l.length = 16) : ∃ a0 a1 a2 a3 a4 a5 a6 a7 a8 a9 a10 a11 a12 a13 a14 a15, l = [a0, a1, a2, a3, a4, a5, a6, a7, a8, a9, a10, a11, a12, a13, a14, a15] := by
  match l, h with
  | [a0, a1, a2, a3, a4, a5, a6, a7, a8, a9, a10, a11, a12, a13, a14, a15], _ => exact ⟨_, _, _, _, _, _, _, _, _, _, _, _, _, _, _, _, rfl⟩

set_option maxRecDepth 100000 in
theorem split_any (s : ByteArray) (hs : s.size = 64) (w : World) :
    Calls Tryd.prog 25 #[.string s] w (Gives (.agg ((wordsL s.data.toList).map U).toArray) w) := by
  go_enter Tryd.func25, Tryd.ntmps25
  go_wp2_with fail
  go_loopw [7] (fun i wr => ∃ k : Nat, k ≤ 64 ∧ i = .int .i64 (k : Int) ∧ Row (w.heap.size + 1) (wAcc s.data.toList k) wr ∧ Row w.heap.size (List.replicate 16 0) wr ∧ Below w.heap.size w wr) (fun i _ => 64 - (intOf i).toNat)
  case atStart =>
    refine ⟨0, by omega, rfl, ?_, (row_new w _).step (below_alloc _ _), (below_alloc _ _).alloc (by simp) _⟩
    have h := row_new (w.alloc (.cells (Array.replicate 16 (U 0)) 40)) 40
    rw [World.size_alloc] at h
    exact h
  case round =>
    obtain ⟨k, hk, rfl, R1, R2, hb⟩ := hrel
    by_cases hlt : k < 64
    · obtain ⟨q, hq⟩ : ∃ q, q = k / 4 := ⟨_, rfl⟩
      obtain ⟨m, hm⟩ : ∃ m, m = k % 4 := ⟨_, rfl⟩
      obtain ⟨n, hn⟩ : ∃ n, n = 8 * m := ⟨_, rfl⟩
      have hlk : k < s.size := by omega
      have hbk := byte_lt s[k]
      have eb : s.data.toList.getD k 0 = s[k] := by
        rw [List.getD_eq_getElem?_getD, List.getElem?_eq_getElem (by simpa using hlk)]; rfl
      have hbd := wAcc_u32 s.data.toList k q
      have hb2 := wAcc_u32 s.data.toList (k + 1) q
      have hsh := wAcc_shl s.data.toList k
      have hor := wAcc_or s.data.toList k hlt
      have hnx := hide (wAcc_next s.data.toList k hlt)
      have D1 : IntKind.i64.wrap ((k : Int) / 4) = (q : Int) := by rw [IntWalk.i64_in _ ⟨by omega, by omega⟩]; omega
      have D2 : (k : Int).tmod 4 = (m : Int) := by rw [Int.tmod_eq_emod_of_nonneg (by omega)]; omega
      have D3 : IntKind.i64.wrap ((m : Int) * 8) = (n : Int) := by rw [IntWalk.i64_in _ ⟨by omega, by omega⟩]; omega
      have q16 : (q : Int) < 16 := by omega
      have n32 : (n : Int) < 32 := by omega
      have n0 : (0 : Int) ≤ (n : Int) := by omega
      rw [← hq, ← hm, ← hn, eb] at hor
      rw [← hm, ← hn, eb] at hsh
      rw [← hq] at hnx
      have X := hide (fun W (h : Row (w.heap.size + 1) (wAcc s.data.toList k) W) => h.2.2.1 q (by omega))
      generalize (wAcc s.data.toList k).getD q 0 = x at *
      generalize (wAcc s.data.toList (k + 1)).getD q 0 = y at *
      obtain ⟨z, hz⟩ : ∃ z, z = s[k].toNat * 2 ^ n := ⟨_, rfl⟩
      rw [← hz] at hor hsh
      have D4 : (s[k].toNat : Int) * 2 ^ n % 4294967296 = (z : Int) := by
        have : ((s[k].toNat * 2 ^ n : Nat) : Int) = (s[k].toNat : Int) * 2 ^ n := by rw [Int.natCast_mul, Int.natCast_pow]; rfl
        rw [← this, ← hz]; omega
      have D5 : IntKind.u32.wrap ((s[k].toNat : Int) * 2 ^ n) = (z : Int) := by rw [IntKind.wrap_u32]; exact D4
      have D6 : bits .or .u32 (x : Int) (z : Int) = (y : Int) := by rw [u32_or_nat x z hbd hsh, hor]
      have D7 : IntKind.u32.wrap (s[k].toNat : Int) = (s[k].toNat : Int) := by rw [IntKind.wrap_u32]; omega
      have q16' : q < 16 := by omega
      clear hq hm hn hz hor hbd hb2 hsh eb
      go_wp2_with fail
      refine region_tail (C := fun W => Below w.heap.size w W ∧ Row (w.heap.size + 1) (wAcc s.data.toList k) W ∧ Row w.heap.size (List.replicate 16 0) W) 14 (by kernel_rfl) (by kernel_rfl) ⟨hb.drew, R1.step (below_drew _), R2.step (below_drew _)⟩ fun W ⟨HB, R3, R4⟩ => ?_
      have CK := X.out W R3
      have FK := R3.2.2.2 q
      simp only [List.take_succ_cons, List.take_zero, List.drop_succ_cons, List.drop_zero]
      iterate 14 still_step
      refine wpStill_nil ?_
      go_wp2
      go_roundw
      case rel =>
        refine ⟨k + 1, by omega, by go_num, ?_, R4.other (by omega) _ _, HB.setCell (by dsimp only; omega) _⟩
        rw [← hnx.out]
        exact R3.set q16'
      case measure => simp [intOf] <;> omega
    · obtain rfl : k = 64 := by omega
      have E := hide (show wordsL s.data.toList = wAcc s.data.toList 64 from rfl)
      generalize wAcc s.data.toList 64 = ws at *
      obtain ⟨a0, a1, a2, a3, a4, a5, a6, a7, a8, a9, a10, a11, a12, a13, a14, a15, rfl⟩ := list16 R1.1
      obtain ⟨_, l1, c, f⟩ := id R1
      obtain ⟨_, l2, d, fd⟩ := id R2
      have c0 : wr.cell? ⟨w.heap.size + 1, 0, none⟩ = some (U a0) := c 0 (by omega)
      have d0 : wr.cell? ⟨w.heap.size, 0, none⟩ = some (U 0) := d 0 (by omega)
      have f0 := fd 0
      have c1 : wr.cell? ⟨w.heap.size + 1, 1, none⟩ = some (U a1) := c 1 (by omega)
      have d1 : wr.cell? ⟨w.heap.size, 1, none⟩ = some (U 0) := d 1 (by omega)
      have f1 := fd 1
      have c2 : wr.cell? ⟨w.heap.size + 1, 2, none⟩ = some (U a2) := c 2 (by omega)
      have d2 : wr.cell? ⟨w.heap.size, 2, none⟩ = some (U 0) := d 2 (by omega)
      have f2 := fd 2
      have c3 : wr.cell? ⟨w.heap.size + 1, 3, none⟩ = some (U a3) := c 3 (by omega)
      have d3 : wr.cell? ⟨w.heap.size, 3, none⟩ = some (U 0) := d 3 (by omega)
      have f3 := fd 3
      have c4 : wr.cell? ⟨w.heap.size + 1, 4, none⟩ = some (U a4) := c 4 (by omega)
      have d4 : wr.cell? ⟨w.heap.size, 4, none⟩ = some (U 0) := d 4 (by omega)
      have f4 := fd 4
      have c5 : wr.cell? ⟨w.heap.size + 1, 5, none⟩ = some (U a5) := c 5 (by omega)
      have d5 : wr.cell? ⟨w.heap.size, 5, none⟩ = some (U 0) := d 5 (by omega)
      have f5 := fd 5
      have c6 : wr.cell? ⟨w.heap.size + 1, 6, none⟩ = some (U a6) := c 6 (by omega)
      have d6 : wr.cell? ⟨w.heap.size, 6, none⟩ = some (U 0) := d 6 (by omega)
      have f6 := fd 6
      have c7 : wr.cell? ⟨w.heap.size + 1, 7, none⟩ = some (U a7) := c 7 (by omega)
      have d7 : wr.cell? ⟨w.heap.size, 7, none⟩ = some (U 0) := d 7 (by omega)
      have f7 := fd 7
      have c8 : wr.cell? ⟨w.heap.size + 1, 8, none⟩ = some (U a8) := c 8 (by omega)
      have d8 : wr.cell? ⟨w.heap.size, 8, none⟩ = some (U 0) := d 8 (by omega)
      have f8 := fd 8
      have c9 : wr.cell? ⟨w.heap.size + 1, 9, none⟩ = some (U a9) := c 9 (by omega)
      have d9 : wr.cell? ⟨w.heap.size, 9, none⟩ = some (U 0) := d 9 (by omega)
      have f9 := fd 9
      have c10 : wr.cell? ⟨w.heap.size + 1, 10, none⟩ = some (U a10) := c 10 (by omega)
      have d10 : wr.cell? ⟨w.heap.size, 10, none⟩ = some (U 0) := d 10 (by omega)
      have f10 := fd 10
      have c11 : wr.cell? ⟨w.heap.size + 1, 11, none⟩ = some (U a11) := c 11 (by omega)
      have d11 : wr.cell? ⟨w.heap.size, 11, none⟩ = some (U 0) := d 11 (by omega)
      have f11 := fd 11
      have c12 : wr.cell? ⟨w.heap.size + 1, 12, none⟩ = some (U a12) := c 12 (by omega)
      have d12 : wr.cell? ⟨w.heap.size, 12, none⟩ = some (U 0) := d 12 (by omega)
      have f12 := fd 12
      have c13 : wr.cell? ⟨w.heap.size + 1, 13, none⟩ = some (U a13) := c 13 (by omega)
      have d13 : wr.cell? ⟨w.heap.size, 13, none⟩ = some (U 0) := d 13 (by omega)
      have f13 := fd 13
      have c14 : wr.cell? ⟨w.heap.size + 1, 14, none⟩ = some (U a14) := c 14 (by omega)
      have d14 : wr.cell? ⟨w.heap.size, 14, none⟩ = some (U 0) := d 14 (by omega)
      have f14 := fd 14
      have c15 : wr.cell? ⟨w.heap.size + 1, 15, none⟩ = some (U a15) := c 15 (by omega)
      have d15 : wr.cell? ⟨w.heap.size, 15, none⟩ = some (U 0) := d 15 (by omega)
      have f15 := fd 15
      clear c d f fd R1 R2
      go_wp2
      refine bodyPost_ret (v := .agg #[U a0, U a1, U a2, U a3, U a4, U a5, U a6, U a7, U a8, U a9, U a10, U a11, U a12, U a13, U a14, U a15]) ?_ rfl ⟨by rw [E.out]; rfl, ?_⟩
      · simp [results, Tryd.results25, go_sem, d0, d1, d2, d3, d4, d5, d6, d7, d8, d9, d10, d11, d12, d13, d14, d15]
      · have hzB := hb.size
        repeat' (first | (with_reducible exact hb) | (with_reducible apply Below.setCell))
        all_goals (dsimp only; omega)
end Go.Proofs.YtiickcdkibcdpaaDoor
