/-
  Bytes that a call has out of a string, written one by one; how the sum of 32 bits parts what differs. No condition beyond those in each theorem's own statement.
-/
import Derived.Test.YtnaedngbcndakaaDigV
namespace Go.Proofs.Ytnaedngbcndakaa
open Go.RowKit Go.Joins

/-- so many bytes in a block -/
def RowN (g n : Nat) (f : Nat → UInt8) (W : World) : Prop := g < W.heap.size ∧ (∀ j, j < n → W.cell? ⟨g, j, none⟩ = some (byteV (f j))) ∧ ∀ j, j < n → W.frozen? ⟨g, j, none⟩ = false
theorem RowN.step {g n : Nat} {f : Nat → UInt8} {W w2 : World} (h : RowN g n f W) (hb : Below W.heap.size W w2) : RowN g n f w2 :=
  ⟨Nat.lt_of_lt_of_le h.1 hb.size, fun j hj => keep_cell hb (h.2.1 j hj), fun j hj => keep_free hb h.1 (h.2.2 j hj)⟩
theorem RowN.set {g n : Nat} {f f' : Nat → UInt8} {W : World} (h : RowN g n f W) {k : Nat} (hk : k < n) (h1 : ∀ j, j ≠ k → f' j = f j) : RowN g n f' (W.setCell ⟨g, k, none⟩ (byteV (f' k))) := by
  obtain ⟨h2, h3, h4⟩ := h
  refine ⟨by simpa using h2, fun i hi => ?_, fun i hi => by simpa using h4 i hi⟩
  by_cases e : i = k
  · subst e
    simp [go_sem, h3 i hi]
  · have h := World.cell?_setCells_out g [byteV (f' k)] k W ⟨g, i, none⟩ (fun _ _ => by simp; omega)
    exact (h.trans (h3 i hi)).trans (by rw [h1 i e])
def atL (l : List UInt8) : Nat → UInt8 := fun j => l.getD j 0
theorem frozen_row {V : World} {g : Nat} {cs : Array Value} {t : TypeId} {x y : Nat} (h : V.heap[g]? = some (.cells cs t (x, y))) (j : Nat) : V.frozen? ⟨g, j, none⟩ = (decide (x ≤ j) && decide (j < y)) := by
  unfold World.frozen?
  simp [h]
theorem conv_bytes (w : World) (s : ByteArray) : ∃ cap w2, (convert 9 56 (.string s)).run Try.prog w = .ok (.slice (some ⟨w.heap.size, 0, none⟩) s.size cap) w2 ∧
    RowN w.heap.size s.size (atL s.data.toList) w2 ∧ Below w.heap.size w w2 := by
  refine ⟨_, _, run_bytes_of_string (P := Try.prog) w 9 56 5 s Try.underlying9 Try.underlying56 Try.underlying5, ?_, (Below.refl _ _).drew.alloc (Nat.le_refl _) _⟩
  have hge : s.size ≤ grownCap w s.size 0 5 := grownCap_ge w s.size 0 5
  generalize grownCap w s.size 0 5 = cap at *
  have hsz : (bytesRow s cap).size = cap := by
    unfold bytesRow
    rw [Array.size_append, Array.size_map, Array.size_replicate]
    show s.size + (cap - s.size) = cap
    omega
  have hn := heap_alloc_new w.drew (.cells (bytesRow s cap) 5 ((bytesRow s cap).size, (bytesRow s cap).size + 1))
  have hd : w.drew.heap.size = w.heap.size := rfl
  rw [hd] at hn
  refine ⟨by simp, fun j hj => ?_, fun j hj => ?_⟩
  · rw [cell_of_row _ _ j _ _ _ hn]
    unfold bytesRow
    rw [Array.getElem?_append_left (by rw [Array.size_map]; exact hj), Array.getElem?_map]
    have hj2 : j < s.data.toList.length := hj
    unfold atL
    rw [List.getD_eq_getElem?_getD, ← Array.getElem?_toList, List.getElem?_eq_getElem hj2]
    rfl
  · rw [frozen_row hn j, hsz]
    simp
    omega
theorem conv_rowN {W : World} {g n cap : Nat} {f : Nat → UInt8} {l : List UInt8} (h : RowN g n f W) (hl : l.length = n) (e : ∀ j, j < n → l[j]? = some (f j)) :
    (convert 56 9 (.slice (some ⟨g, 0, none⟩) n cap)).run Try.prog W = .ok (St l) W := by
  subst hl
  refine run_convert_bytes_back (P := Try.prog) W 56 9 5 ⟨g, 0, none⟩ cap l Try.underlying56 Try.underlying5 Try.underlying9 (fun j hj => ?_)
  have ha : (⟨g, 0, none⟩ : Go.Addr).add j = ⟨g, j, none⟩ := by cases j <;> simp [Addr.add]
  have h1 := e j hj
  rw [List.getElem?_eq_getElem hj] at h1
  rw [ha, h.2.1 j hj, ← Option.some.inj h1]
  rfl
/-- the number of bytes, the lowest first -/
def leV : List UInt8 → Nat
  | [] => 0
  | b :: l => b.toNat ^^^ leV l * 256
theorem crcN_add (r : Nat) (j : Nat) : ∀ k, crcN (j + k) r = crcN k (crcN j r)
  | 0 => rfl
  | k + 1 => by rw [← Nat.add_assoc, crcN, crcN_add r j k]; rfl
theorem crcF_le : ∀ (l : List UInt8) (r : Nat), crcF l r = crcN (8 * l.length) (r ^^^ leV l)
  | [], r => by rw [leV, Nat.xor_zero]; rfl
  | b :: l, r => by
    rw [crcF, crcF_le l, leV, List.length_cons, show 8 * (l.length + 1) = 8 + 8 * l.length by omega, crcN_add, ← Nat.xor_assoc, crcN_xor (r ^^^ b.toNat), crcN_byte]
theorem crcF_app : ∀ (a b : List UInt8) (r : Nat), crcF (a ++ b) r = crcF b (crcF a r)
  | [], _, _ => rfl
  | _ :: a, b, _ => crcF_app a b _
theorem xor_ne {a b : Nat} (h : a ≠ b) : a ^^^ b ≠ 0 := fun e => h (by
  have := congrArg (· ^^^ b) e
  simpa [Nat.xor_assoc] using this)
theorem crcF_ne (l : List UInt8) {a b : Nat} (ha : a < 4294967296) (hb : b < 4294967296) (h : a ≠ b) : crcF l a ≠ crcF l b := by
  intro e
  rw [crcF_le, crcF_le] at e
  have h1 : crcN (8 * l.length) ((a ^^^ leV l) ^^^ (b ^^^ leV l)) = 0 := by rw [crcN_xor, e, Nat.xor_self]
  rw [xor_swap] at h1
  exact crcN_ne (xor_lt ha hb) (xor_ne h) _ h1
end Go.Proofs.Ytnaedngbcndakaa
