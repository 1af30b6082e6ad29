/-
  Bytes that a call has out of a string, turned in place: the contract of xor. Condition: the second string is as long as the first.
-/
import Derived.Test.YtiickcdkibcdpaaDoorDigK
namespace Go.Proofs.YtiickcdkibcdpaaDoor
open Go.RowKit Go.Joins

/-- so many bytes in a block -/
def RowN (g n : Nat) (f : Nat → UInt8) (W : World) : Prop := g < W.heap.size ∧ (∀ j, j < n → W.cell? ⟨g, j, none⟩ = some (byteV (f j))) ∧ ∀ j, j < n → W.frozen? ⟨g, j, none⟩ = false
theorem RowN.step {g n : Nat} {f : Nat → UInt8} {W w2 : World} (h : RowN g n f W) (hb : Below W.heap.size W w2) : RowN g n f w2 :=
  ⟨Nat.lt_of_lt_of_le h.1 hb.size, fun j hj => keep_cell hb (h.2.1 j hj), fun j hj => keep_free hb h.1 (h.2.2 j hj)⟩
theorem RowN.set {g n : Nat} {f f' : Nat → UInt8} {W : World} (h : RowN g n f W) {k : Nat} (hk : k < n) (h1 : ∀ j, j ≠ k → f' j = f j) : RowN g n f' (W.setCell ⟨g, k, none⟩ (byteV (f' k))) := by
  obtain ⟨h2, h3, h4⟩ := h
  refine ⟨by simpa using h2, fun i hi => ?_, fun i hi => by simpa using h4 i hi⟩
  by_cases e : i = k
  · subst e
    simp [go_sem, h3 i hi]
  · have h := World.cell?_setCells_out g [byteV (f' k)] k W ⟨g, i, none⟩ (fun _ _ => by simp; omega)
    exact (h.trans (h3 i hi)).trans (by rw [h1 i e])
def atL (l : List UInt8) : Nat → UInt8 := fun j => l.getD j 0
theorem frozen_row {V : World} {g : Nat} {cs : Array Value} {t : TypeId} {x y : Nat} (h : V.heap[g]? = some (.cells cs t (x, y))) (j : Nat) : V.frozen? ⟨g, j, none⟩ = (decide (x ≤ j) && decide (j < y)) := by
  unfold World.frozen?
  simp [h]
theorem conv_bytes (w : World) (s : ByteArray) : ∃ cap w2, (convert 9 31 (.string s)).run Tryd.prog w = .ok (.slice (some ⟨w.heap.size, 0, none⟩) s.size cap) w2 ∧
    RowN w.heap.size s.size (atL s.data.toList) w2 ∧ Below w.heap.size w w2 := by
  refine ⟨_, _, run_bytes_of_string (P := Tryd.prog) w 9 31 5 s Tryd.underlying9 Tryd.underlying31 Tryd.underlying5, ?_, (Below.refl _ _).drew.alloc (Nat.le_refl _) _⟩
  have hge : s.size ≤ grownCap w s.size 0 5 := grownCap_ge w s.size 0 5
  generalize grownCap w s.size 0 5 = cap at *
  have hsz : (bytesRow s cap).size = cap := by
    unfold bytesRow
    rw [Array.size_append, Array.size_map, Array.size_replicate]
    show s.size + (cap - s.size) = cap
    omega
  have hn := heap_alloc_new w.drew (.cells (bytesRow s cap) 5 ((bytesRow s cap).size, (bytesRow s cap).size + 1))
  have hd : w.drew.heap.size = w.heap.size := rfl
  rw [hd] at hn
  refine ⟨by simp, fun j hj => ?_, fun j hj => ?_⟩
  · rw [cell_of_row _ _ j _ _ _ hn]
    unfold bytesRow
    rw [Array.getElem?_append_left (by rw [Array.size_map]; exact hj), Array.getElem?_map]
    have hj2 : j < s.data.toList.length := hj
    unfold atL
    rw [List.getD_eq_getElem?_getD, ← Array.getElem?_toList, List.getElem?_eq_getElem hj2]
    rfl
  · rw [frozen_row hn j, hsz]
    simp
    omega
theorem conv_rowN {W : World} {g n cap : Nat} {f : Nat → UInt8} {l : List UInt8} (h : RowN g n f W) (hl : l.length = n) (e : ∀ j, j < n → l[j]? = some (f j)) :
    (convert 31 9 (.slice (some ⟨g, 0, none⟩) n cap)).run Tryd.prog W = .ok (St l) W := by
  subst hl
  refine run_convert_bytes_back (P := Tryd.prog) W 31 9 5 ⟨g, 0, none⟩ cap l Tryd.underlying31 Tryd.underlying5 Tryd.underlying9 (fun j hj => ?_)
  have ha : (⟨g, 0, none⟩ : Go.Addr).add j = ⟨g, j, none⟩ := by cases j <;> simp [Addr.add]
  have h1 := e j hj
  rw [List.getElem?_eq_getElem hj] at h1
  rw [ha, h.2.1 j hj, ← Option.some.inj h1]
  rfl
def xorL (a b : List UInt8) : List UInt8 := List.zipWith (· ^^^ ·) a b
theorem xorL_length {a b : List UInt8} (h : b.length = a.length) : (xorL a b).length = a.length := by unfold xorL; rw [List.length_zipWith, h, Nat.min_self]
def xorF (a b : List UInt8) (k : Nat) : Nat → UInt8 := fun j => if j < k then atL a j ^^^ atL b j else atL a j
theorem xorF_next (a b : List UInt8) {j k : Nat} (h : j ≠ k) : xorF a b (k + 1) j = xorF a b k j := by
  unfold xorF
  by_cases h2 : j < k
  · rw [if_pos h2, if_pos (by omega)]
  · rw [if_neg h2, if_neg (by omega)]
theorem xorF_out {a b : List UInt8} (h : b.length = a.length) (j : Nat) (hj : j < a.length) : (xorL a b)[j]? = some (xorF a b a.length j) := by
  unfold xorL xorF atL
  rw [if_pos hj, List.getElem?_zipWith, List.getElem?_eq_getElem hj, List.getElem?_eq_getElem (show j < b.length by omega), List.getD_eq_getElem?_getD, List.getD_eq_getElem?_getD, List.getElem?_eq_getElem hj, List.getElem?_eq_getElem (show j < b.length by omega)]
  rfl

set_option maxRecDepth 100000 in
set_option maxHeartbeats 1000000 in
theorem xor_any (a b : ByteArray) (ha : a.size ≤ maxLen) (h : b.size = a.size) (w : World) : Calls Tryd.prog 15 #[.string a, .string b] w (Gives (St (xorL a.data.toList b.data.toList)) w) := by
  unfold maxLen at ha
  have hl : b.data.toList.length = a.data.toList.length := h
  have la : a.data.toList.length = a.size := rfl
  obtain ⟨cap0, w2, CV, R0, B0⟩ := conv_bytes w a
  have R0 : RowN w.heap.size a.size (xorF a.data.toList b.data.toList 0) w2 := R0
  have HB := hide h
  clear h
  go_enter Tryd.func15, Tryd.ntmps15
  go_wp2_with fail
  clear CV
  go_loopw [6] (fun i wr => ∃ k : Nat, k ≤ a.size ∧ i = .int .i64 (k : Int) ∧ RowN w.heap.size a.size (xorF a.data.toList b.data.toList k) wr ∧ Below w.heap.size w wr) (fun i _ => a.size - (intOf i).toNat)
  case atStart => exact ⟨0, by omega, rfl, R0, B0⟩
  case round =>
    clear R0 B0
    obtain ⟨k, hk, rfl, R, hb⟩ := hrel
    by_cases hlt : k < a.size
    · have k1 : (k : Int) < (a.size : Int) := by omega
      have k2 : k < b.size := by have := HB.out; omega
      have k3 : (k : Int) < (b.size : Int) := by omega
      have e2 : atL b.data.toList k = b[k] := by
        unfold atL
        rw [List.getD_eq_getElem?_getD, List.getElem?_eq_getElem (by simpa using k2)]; rfl
      have e1 : xorF a.data.toList b.data.toList (k + 1) k = xorF a.data.toList b.data.toList k k ^^^ b[k] := by
        unfold xorF; rw [if_pos (by omega), if_neg (by omega), e2]
      have R2 := hide (fun W (r : RowN w.heap.size a.size (xorF a.data.toList b.data.toList k) W) => r.set (f' := xorF a.data.toList b.data.toList (k + 1)) hlt (fun j hj => xorF_next _ _ hj))
      rw [e1] at R2
      have X := xor8 (xorF a.data.toList b.data.toList k k) b[k]
      have CKh := hide (fun W (r : RowN w.heap.size a.size (xorF a.data.toList b.data.toList k) W) => r.2.1 k hlt)
      have FKh := hide (fun W (r : RowN w.heap.size a.size (xorF a.data.toList b.data.toList k) W) => r.2.2 k hlt)
      generalize xorF a.data.toList b.data.toList k k = x at *
      unfold byteV at CKh R2
      generalize x ^^^ b[k] = y at *
      clear e1 e2
      go_wp2_with fail
      refine region_tail (C := fun W => Below w.heap.size w W ∧ RowN w.heap.size a.size (xorF a.data.toList b.data.toList k) W) 11 (by kernel_rfl) (by kernel_rfl) ⟨hb.drew, R.step (below_drew _)⟩ fun W ⟨HB2, R3⟩ => ?_
      have CK := CKh.out W R3
      have FK := FKh.out W R3
      have LG := R3.1
      simp only [List.take_succ_cons, List.take_zero, List.drop_succ_cons, List.drop_zero]
      iterate 11 still_step
      refine wpStill_nil ?_
      go_wp2
      go_roundw
      case rel => exact ⟨k + 1, by omega, by go_num, R2.out W R3, HB2.setCell (by dsimp only; omega) _⟩
      case measure => simp [intOf] <;> omega
    · have H : k = a.size := by omega
      have k1 : ¬ (k : Int) < (a.size : Int) := by omega
      have CV := conv_rowN (cap := cap0) (l := xorL a.data.toList b.data.toList) R ((xorL_length hl).trans la) (fun j hj => by rw [H]; exact xorF_out hl j hj)
      clear H R
      go_wp2
      go_ret
      exact ⟨rfl, hb⟩
end Go.Proofs.YtiickcdkibcdpaaDoor
