/-
  pool's singles: each address as a range of its own. Conditions: the words are words of 64 bits; at most 1000 addresses.
-/
import Derived.Test.YtfmhpnendcikoaaGreatPoZ
namespace Go.Proofs.YtfmhpnendcikoaaGreat
open Go.RowKit Go.Joins

theorem zerosR (n : Nat) : (madeCells #[Value.int .u64 0, .int .u64 0, .int .u64 0, .int .u64 0] (n * 4)).toList = cellsR (List.replicate n (0, 0)) := by
  have h1 : (madeCells #[Value.int .u64 0, .int .u64 0, .int .u64 0, .int .u64 0] (n * 4)).toList = List.replicate (n * 4) (Value.int .u64 0) := by
    rw [List.eq_replicate_iff]
    refine ⟨by rw [Array.length_toList, size_madeCells], fun b hb => ?_⟩
    unfold madeCells at hb
    simp only [Array.toList_map, List.mem_map] at hb
    obtain ⟨i, _, rfl⟩ := hb
    show (#[Value.int .u64 0, .int .u64 0, .int .u64 0, .int .u64 0] : Array Value)[i % 4]! = _
    have : i % 4 = 0 ∨ i % 4 = 1 ∨ i % 4 = 2 ∨ i % 4 = 3 := by omega
    rcases this with e | e | e | e <;> rw [e] <;> rfl
  rw [h1]
  induction n with
  | zero => rfl
  | succ n ih =>
    rw [List.replicate_succ, cellsR_cons, ← ih (by
      rw [List.eq_replicate_iff]
      refine ⟨by rw [Array.length_toList, size_madeCells], fun b hb => ?_⟩
      unfold madeCells at hb
      simp only [Array.toList_map, List.mem_map] at hb
      obtain ⟨i, _, rfl⟩ := hb
      show (#[Value.int .u64 0, .int .u64 0, .int .u64 0, .int .u64 0] : Array Value)[i % 4]! = _
      have : i % 4 = 0 ∨ i % 4 = 1 ∨ i % 4 = 2 ∨ i % 4 = 3 := by omega
      rcases this with e | e | e | e <;> rw [e] <;> rfl)]
    rw [show (n + 1) * 4 = 4 + n * 4 by omega, ← List.replicate_append_replicate]
    rfl
def sgK (l : List Nat) (k : Nat) : List Rg := sgL (l.take k) ++ List.replicate (l.length - k) (0, 0)
theorem sgK_len {l : List Nat} {k : Nat} (hk : k ≤ l.length) : (sgK l k).length = l.length := by unfold sgK; rw [List.length_append, sg_len, List.length_take, List.length_replicate]; omega
theorem sgK_set {l : List Nat} {k a : Nat} (h : l[k]? = some a) : (sgK l k).set k (a, a) = sgK l (k + 1) := by
  have hk : k < l.length := (List.getElem?_eq_some_iff.1 h).1
  unfold sgK
  have e : (sgL (l.take k)).length = k := by rw [sg_len, List.length_take]; omega
  rw [List.set_append_right _ _ (by omega), e, Nat.sub_self, show l.length - k = (l.length - (k + 1)) + 1 by omega, List.replicate_succ, List.set_cons_zero]
  unfold sgL
  rw [List.take_add_one, h, List.map_append, List.append_assoc]
  rfl
theorem sgK_at {l : List Nat} {k : Nat} (h : k < l.length) : (sgK l k)[k]? = some (0, 0) := by
  unfold sgK
  have e : (sgL (l.take k)).length = k := by rw [sg_len, List.length_take]; omega
  rw [List.getElem?_append_right (by omega), e, Nat.sub_self, List.getElem?_replicate, if_pos (by omega)]
theorem sgK_end (l : List Nat) : sgK l l.length = sgL l := by unfold sgK; rw [List.take_length, Nat.sub_self]; simp
theorem cellsR_set4 {l : List Rg} {j : Nat} {x y : Nat} (h : j < l.length) : ((((cellsR l).set (j * 4) (.int .u64 (hi x : Nat))).set (j * 4 + 1) (.int .u64 (lo x : Nat))).set (j * 4 + 2) (.int .u64 (hi y : Nat))).set (j * 4 + 3) (.int .u64 (lo y : Nat)) = cellsR (l.set j (x, y)) := by
  induction l generalizing j with
  | nil => simp at h
  | cons z r ih =>
    cases j with
    | zero =>
      rw [List.set_cons_zero, cellsR_cons, cellsR_cons]
      rfl
    | succ j =>
      have h' : j < r.length := by simpa using h
      rw [show (j + 1) * 4 = j * 4 + 4 by omega, show j * 4 + 4 + 1 = (j * 4 + 1) + 4 by omega, show j * 4 + 4 + 2 = (j * 4 + 2) + 4 by omega, show j * 4 + 4 + 3 = (j * 4 + 3) + 4 by omega, List.set_cons_succ, cellsR_cons, cellsR_cons, ← ih h']
      rfl
theorem own_set4 {W : World} {base g n c j : Nat} {l : List Rg} (h : W.ownsRow base 36 4 (.slice (some ⟨g, 0, none⟩) n c) n (cellsR l)) (hj : j < l.length) (x y : Nat) :
    ((((W.setCell ⟨g, j * 4, none⟩ (.int .u64 (hi x : Nat))).setCell ⟨g, j * 4 + 1, none⟩ (.int .u64 (lo x : Nat))).setCell ⟨g, j * 4 + 2, none⟩ (.int .u64 (hi y : Nat))).setCell ⟨g, j * 4 + 3, none⟩ (.int .u64 (lo y : Nat))).ownsRow base 36 4 (.slice (some ⟨g, 0, none⟩) n c) n (cellsR (l.set j (x, y))) := by
  have h1 := (h.stored (j * 4) (.int .u64 (hi x : Nat))).1
  have h2 := (h1.stored (j * 4 + 1) (.int .u64 (lo x : Nat))).1
  have h3 := (h2.stored (j * 4 + 2) (.int .u64 (hi y : Nat))).1
  have h4 := (h3.stored (j * 4 + 3) (.int .u64 (lo y : Nat))).1
  rw [cellsR_set4 hj] at h4
  exact h4
set_option maxRecDepth 100000 in
set_option maxHeartbeats 1000000 in
theorem singles_any {v : Value} {l : List Nat} (hl : l.length ≤ 1000) (w : World) (hv : LstA v l w) :
    Calls Tryz.prog 24 #[v] w (MakesL (sgL l) w) := by
  obtain ⟨i0, hif, hz0, hz1, hz2⟩ := info_parts infoR
  obtain ⟨p, c, rfl⟩ := lstA_len hv
  have HV := hide (fun W (H : Below w.heap.size w W) => hv.step H)
  have SE := hide (sgK_end l)
  have SS := hide (fun k a (h : l[k]? = some a) => sgK_set h)
  have SZ := hide (fun k (h : k < l.length) => sgK_at h)
  have SL := hide (fun k (h : k ≤ l.length) => sgK_len h)
  clear hv
  go_enter Tryz.func24, Tryz.ntmps24
  go_wp2_with (at_make; refine wpList_make_full _ rfl _ _ 22 rfl w.heap.size 36 i0 (.agg #[.int .u64 0, .int .u64 0, .int .u64 0, .int .u64 0]) 4 Tryz.underlying22 hif hz0 hz1 _ _ _ _ l.length rfl rfl rfl rfl ?b2 ?b3 (Nat.le_refl _) ?_)
  case b2 => rw [hz2]; omega
  case b3 => unfold maxLen; omega
  intro w0 hown0 hgrow0
  rw [zerosR] at hown0
  have B0 : Below w.heap.size w w0 := (Below.refl _ _).grown hgrow0 (Nat.le_refl _) (fun k h => by cases h)
  have g0 : w.heap.size < w0.heap.size := (hown0.lt _ rfl).2
  clear hgrow0
  go_wp2_with fail
  go_loopw [11] (fun i wr => ∃ k : Nat, k ≤ l.length ∧ i = .int .i64 (k : Nat) ∧ Below w.heap.size w wr ∧ w.heap.size < wr.heap.size ∧
    wr.ownsRow w.heap.size 36 4 (.slice (some ⟨w.heap.size, 0, none⟩) l.length l.length) l.length (cellsR (sgK l k))) (fun i _ => l.length - (intOf i).toNat)
  case atStart => exact ⟨0, Nat.zero_le _, rfl, B0, g0, by unfold sgK; simpa [sgL] using hown0⟩
  case round =>
    clear hown0 B0 g0
    obtain ⟨k, hk, rfl, HB, HG, HO⟩ := hrel
    by_cases hlt : k < l.length
    · obtain ⟨a, ha⟩ := getA_some hlt
      obtain ⟨b, o, rfl, hb, u0, u1⟩ := lstA_at (HV.out _ HB) ha
      have ZN := SS.out k a ha
      have ZL := SL.out k hk
      have ZK := SZ.out k hlt
      have SL1 := hide ZN
      clear ZN ha
      have f0 := HO.frozenAt (k * 4)
      have f1 := HO.frozenAt (k * 4 + 1)
      have f2 := HO.frozenAt (k * 4 + 2)
      have f3 := HO.frozenAt (k * 4 + 3)
      have S4 := hide (own_set4 HO (j := k) (by omega) a a)
      have NG : wr.heap.size ≠ w.heap.size := by omega
      have c0 : wr.cell? ⟨w.heap.size, k * 4, none⟩ = some (.int .u64 (hi 0 : Nat)) := (HO.cellAt (k * 4) (by omega)).trans (cellsR_at ZK 0 (by omega))
      have c1 : wr.cell? ⟨w.heap.size, k * 4 + 1, none⟩ = some (.int .u64 (lo 0 : Nat)) := (HO.cellAt (k * 4 + 1) (by omega)).trans (cellsR_at ZK 1 (by omega))
      have c2 : wr.cell? ⟨w.heap.size, k * 4 + 2, none⟩ = some (.int .u64 (hi 0 : Nat)) := (HO.cellAt (k * 4 + 2) (by omega)).trans (cellsR_at ZK 2 (by omega))
      have c3 : wr.cell? ⟨w.heap.size, k * 4 + 3, none⟩ = some (.int .u64 (lo 0 : Nat)) := (HO.cellAt (k * 4 + 3) (by omega)).trans (cellsR_at ZK 3 (by omega))
      clear ZK
      go_wp2
      go_roundw
      case rel =>
        refine ⟨k + 1, hlt, by go_num, ?_, by simp; omega, ?_⟩
        · have hz := HB.size
          exact ((((HB.setCell (Nat.le_refl _) _).setCell (Nat.le_refl _) _).setCell (Nat.le_refl _) _).setCell (Nat.le_refl _) _).alloc (by simp; omega) _
        · have h1 := own_keep S4.out (below_alloc _ (.cells #[.int .u64 (hi a : Nat), .int .u64 (lo a : Nat)] 31))
          rw [SL1.out] at h1
          exact h1
      case measure => simp [intOf]; omega
    · have e : k = l.length := by omega
      have R := hide (show sgK l k = sgL l by rw [e]; exact SE.out)
      clear e
      go_wp2
      go_ret
      refine ⟨_, rfl, HB, ?_⟩
      rw [R.out] at HO
      unfold Own
      rw [sg_len]
      exact HO
end Go.Proofs.YtfmhpnendcikoaaGreat
