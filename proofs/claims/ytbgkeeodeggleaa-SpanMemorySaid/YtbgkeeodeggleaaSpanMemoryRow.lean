/-
  The statement SpanMemory: for every slice of ranges and every range the law returns true; what was handed in reads as it did. No condition beyond the row's own.
-/
import Derived.Test.YtbgkeeodeggleaaSpanMw
import Derived.Test.YtbgkeeodeggleaaSpanRow
namespace Go.Proofs.Ytbgkeeodeggleaa
open Go.ChangeShapes Go.WideShapes Go.ChangeAt Go.RowKit Go.Joins

set_option maxRecDepth 100000 in
theorem spanMemory_lifted (os : Os) (started : os.Started) (H : Type) (enc : TypeId × Value → H) :
    ReturnsInHanded {} Try.checked os 9 .any (Rows.spanMemorySpec.pre6 enc Try.prog Try.f9 Rows.spanMemoryRow.domain false) (Rows.spanMemorySpec.post enc Try.prog Try.f9 false true false false) := by
  refine returnsInHanded_of_change (C := Try.checked) rowOwn started (by kernel_rfl) Try.func9
    (ChangeSpec.witness6 (enc := enc) (C := Try.checked) false ⟨#[], #[.slice none 0 0, .agg #[.int .u64 0, .int .u64 0, .int .u64 0, .int .u64 0]], []⟩ 8 (by kernel_rfl) (by kernel_rfl) (by kernel_rfl) (by kernel_rfl)) ?_
  intro W base args ds gs before hval0 hW _ _
  have hval : ∀ (j : Nat) t v, Try.f9.params[j]? = some t → args[j]? = some v → Value.okWide Try.prog W .any base t v := hval0
  have hW' := hW
  obtain ⟨p, q, hA0, hV, rfl, _, _⟩ := hW
  have hA : DataW.TrodAll enc Try.prog W 0 (fun _ => true) true Try.f9.params.toList args.toList ds p := hA0
  rw [Try.params9] at hA hval
  obtain ⟨v0, v1, d0, d1, p0, p1, rfl, rfl, rfl, h0, h1⟩ := trodAll_two hA
  obtain ⟨rfl, rfl⟩ := trodVars_none hV
  have hlt : ∀ q ∈ p0, q.block < W.heap.size := fun q hq => hW'.lt q (by simp [hq])
  obtain ⟨l, fl, hv0, s0⟩ := open_rows (hval 0 22 v0 rfl rfl) h0 hlt
  obtain ⟨x1, q1, rfl, rfl, s1⟩ := open_range (hval 1 27 v1 rfl rfl) h1
  clear hA0 hval0
  simp only [List.append_nil] at hW'
  refine (memory_any fl q1 W hv0).mono fun e W' ⟨he, hg⟩ => ?_
  subst he
  have h3 := fun (sp : Nat → Bool) (hsp : ∀ q ∈ p0, sp q.block = true) => trodAll_mk2 (s0 W' sp hg hsp) (s1 W' 0 sp true)
  simp only [List.append_nil] at h3
  exact ⟨_, rfl, post_below (pa := p0) (pv := []) hW' (fun _ _ _ => trodAll_mk1 (shut_bool Try.underlying4 true)) (fun sp hsp => h3 sp hsp) (fun _ _ => rfl) (by simp) hg⟩

theorem spanMemory_holds : Rows.SpanMemorySaid :=
  OpenClaim.holds_of_wide 9 Try.f9 rfl rfl rfl rfl rfl rfl rfl ⟨rfl, rfl, rfl, rfl, rfl⟩ rfl rfl rfl rfl rfl (by kernel_rfl) Try.func9 (by kernel_rfl)
    (of_decide_eq_true (by kernel_rfl)) (by unfold Func.isWrapper; first | (rw [if_pos (by decide +kernel)]; kernel_rfl) | (rw [if_neg (by decide +kernel)]; exact ⟨rfl, rfl⟩))
    (fun os started H enc _ => spanMemory_lifted os started H enc)
end Go.Proofs.Ytbgkeeodeggleaa
