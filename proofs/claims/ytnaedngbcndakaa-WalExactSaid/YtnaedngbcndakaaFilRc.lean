/-
  What the model says of the types of the document's own disk; a text cut. No condition.
-/
import Derived.Test.YtnaedngbcndakaaFilRb

namespace Go.Proofs.Ytnaedngbcndakaa
open Go.RowKit Go.Maps

theorem infoS : (Try.prog.info? 9).map (fun i => (i.zero, i.size, i.bytes)) = some (some (.string ⟨#[]⟩), 1, 16) := by kernel_rfl
theorem infoF : (Try.prog.info? 86).map (fun i => (i.zero, i.size, i.bytes)) = some (some (.agg #[.string ⟨#[]⟩, .string ⟨#[]⟩, .int .i64 0]), 3, 40) := by kernel_rfl
theorem info_of {T : TypeId} {z : Value} {a b : Nat} (h : (Try.prog.info? T).map (fun i => (i.zero, i.size, i.bytes)) = some (some z, a, b)) : ∃ i, Try.prog.info? T = some i ∧ i.zero = some z ∧ i.size = a ∧ i.bytes = b := by
  cases hi : Try.prog.info? T with
  | none => rw [hi] at h; cases h
  | some i =>
    rw [hi] at h
    simp at h
    exact ⟨i, rfl, h.1, h.2.1, h.2.2⟩
theorem one_new (W : World) (u : Value) (T : TypeId) : ∀ j x, [u][j]? = some x → (W.alloc (.cells #[u] T)).cell? ((⟨W.heap.size, 0, none⟩ : Go.Addr).add j) = some x := cell_one_new W u T
theorem own_lit (W : World) (T : TypeId) (size : Nat) : (W.alloc (.cells #[] T)).ownsRow W.heap.size T size (.slice (some ⟨W.heap.size, 0, none⟩) 0 0) 0 [] :=
  ⟨by simp, Or.inr ⟨W.heap.size, 0, #[], rfl, Nat.le_refl _, (MapKept.heap_alloc W _).1, Nat.le_refl _, by unfold maxLen; omega, by simp, by simp⟩⟩
theorem bytes_take (x : List UInt8) (n : Nat) : ({ data := x.toArray } : ByteArray).extract 0 n = { data := (x.take n).toArray } := by
  apply ByteArray.ext
  simp
theorem bytes_app (x y : List UInt8) : (({ data := x.toArray } : ByteArray) ++ { data := y.toArray }) = { data := (x ++ y).toArray } := by
  apply ByteArray.ext
  simp
end Go.Proofs.Ytnaedngbcndakaa
