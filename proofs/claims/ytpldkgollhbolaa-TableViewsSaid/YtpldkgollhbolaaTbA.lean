/-
  A table in memory: what it means; keyOf, ownerOf. No condition beyond those in each theorem's own statement.
-/
import Derived.Test.YtpldkgollhbolaaTbV
import Derived.Test.YtpldkgollhbolaaTbK
namespace Go.Proofs.Ytpldkgollhbolaa
open Go.RowKit Go.Joins Go.Maps

/-- a lease's place among the keys, its owner's -/
abbrev KOf (x : Ls) : Value := keyV x.kind x.p x.n
abbrev OOf (x : Ls) : Value := ownV x.kind x.cl x.ia
def RK (E : List En) (key : Value) (g : Nat) : Prop := ∃ x, (g, x) ∈ E ∧ key = KOf x
def RO (E : List En) (key : Value) (g : Nat) : Prop := ∃ x, (g, x) ∈ E ∧ x.st = 1 ∧ key = OOf x
structure TabE (w : World) (t km om : Nat) (O : Nat → Prop) (v : Value) (E : List En) : Prop where
  ends : Ends w t km om O v E
  keys : MapK w 75 km (RK E)
  owns : MapK w 77 om (RO E)
  heap : HeapF (unE E) E.length
  good : GoodL (E.map (·.2))
  ownK : O km ∧ O om
  ne : km ≠ om
/-- memory holds a table with just these leases, in their order -/
def IsTab (w : World) (t : Nat) (O : Nat → Prop) (L : List Ls) : Prop := ∃ km om v E, TabE w t km om O v E ∧ SrtL L ∧ L.Perm (E.map (·.2))
theorem hi_u64 {p : Nat} (h : Fits p) : hi p < 18446744073709551616 := by unfold Fits at h; unfold hi; omega
theorem key_inj {k : Int} {p : Nat} {n : Int} {j : Int} {q : Nat} {m : Int} : keyV k p n = keyV j q m ↔ (k = j ∧ p = q ∧ n = m) := by
  constructor
  · intro h
    simp only [Value.agg.injEq, Array.mk.injEq, List.cons.injEq, Value.int.injEq, true_and, and_true] at h
    obtain ⟨h1, h2, h3, h4⟩ := h
    have a : hi p = hi q := by omega
    have b : lo p = lo q := by omega
    refine ⟨h1, ?_, h4⟩
    unfold hi lo at *
    omega
  · rintro ⟨rfl, rfl, rfl⟩; rfl
theorem own_inj {k : Int} {c : ByteArray} {i : Nat} {j : Int} {d : ByteArray} {m : Nat} : ownV k c i = ownV j d m ↔ (k = j ∧ c = d ∧ i = m) := by
  constructor
  · intro h
    simp only [Value.agg.injEq, Array.mk.injEq, List.cons.injEq, Value.int.injEq, Value.string.injEq, true_and, and_true] at h
    obtain ⟨h1, h2, h3⟩ := h
    exact ⟨h1, h2, by omega⟩
  · rintro ⟨rfl, rfl, rfl⟩; rfl
theorem keyOf_any (x : Ls) (w : World) : Calls Try.prog 51 #[Lv x] w (Gives (KOf x) w) := by
  go_enter Try.func51, Try.ntmps51
  go_wp2
  refine bodyPost_ret (v := KOf x) (by simp [results, Try.results51, go_sem]) rfl ⟨rfl, ?_⟩
  exact (((Below.refl _ _).alloc (Nat.le_refl _) _).alloc (by simp) _)
theorem ownerOf_any (x : Ls) (w : World) : Calls Try.prog 52 #[Lv x] w (Gives (OOf x) w) := by
  go_enter Try.func52, Try.ntmps52
  go_wp2
  refine bodyPost_ret (v := OOf x) (by simp [results, Try.results52, go_sem]) rfl ⟨rfl, ?_⟩
  exact (((Below.refl _ _).alloc (Nat.le_refl _) _).alloc (by simp) _)
end Go.Proofs.Ytpldkgollhbolaa
