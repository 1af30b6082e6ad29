/-
  The statement Opt6Writes: for every input the law returns true; what was handed in reads as it did. No condition beyond the row's own.
-/
import Derived.Test.YtcpldojgmboipaaWr6
import Derived.Test.YtcpldojgmboipaaSxRow
namespace Go.Proofs.Ytcpldojgmboipaa
open Go.ChangeShapes Go.WideShapes Go.ChangeAt Go.RowKit Go.Joins
open Go.ChangeMaps (open_string shut_string)

set_option maxRecDepth 100000 in
theorem opt6Writes_lifted (os : Os) (started : os.Started) (H : Type) (enc : TypeId × Value → H) :
    ReturnsInHanded {} Try.checked os 4 .any (Rows.opt6WritesSpec.pre6 enc Try.prog Try.f4 Rows.opt6WritesRow.domain false) (Rows.opt6WritesSpec.post enc Try.prog Try.f4 false true false false) := by
  refine returnsInHanded_of_change_sized (C := Try.checked) rowOwn started (by kernel_rfl) Try.func4
    (ChangeSpec.witness6 (enc := enc) (C := Try.checked) false ⟨#[], #[.agg #[.int .i64 0, .int .u32 0, .int .u32 0, .int .u32 0, .slice none 0 0, .int .i64 0]], []⟩ 8 (by kernel_rfl) (by kernel_rfl) (by kernel_rfl) (by kernel_rfl)) ?_
  intro W base args ds gs before hval0 hW _ hsz0 _
  have hval : ∀ (j : Nat) t v, Try.f4.params[j]? = some t → args[j]? = some v → Value.okWide Try.prog W .any base t v := hval0
  have hsz : (DataW.weightsEach Try.prog (Try.f4.params.toList ++ Rows.opt6WritesSpec.plain.varTypes Try.prog) (ds ++ gs)).all (· ≤ reachBytes) = true := hsz0
  have hW' := hW
  obtain ⟨p, q, hA0, hV, rfl, _, _⟩ := hW
  have hA : DataW.TrodAll enc Try.prog W 0 (fun _ => true) true Try.f4.params.toList args.toList ds p := hA0
  rw [Try.params4] at hA hval hsz
  obtain ⟨v0, d0, rfl, rfl, h0⟩ := trodAll_one hA
  obtain ⟨rfl, rfl⟩ := trodVars_none hV
  have hlt := hW'.lt
  obtain ⟨a0, u0, f0, rfl, e0, ⟨pt0, du0, rfl, hd0, m_0⟩, s0⟩ := open_ia (hval 0 37 v0 rfl rfl) h0 (fun q hq => hlt q (by simp [hq]))
  have z0 : a0.has.length * 40 ≤ 140737488355328 := by
    rcases List.eq_nil_or_concat a0.has with h | ⟨ini, x, h⟩
    · rw [h]; simp
    · obtain ⟨els, spare, rfl, hl⟩ := m_0 x (by rw [h]; simp)
      have := reach_ia hsz (j := 0) rfl rfl hd0
      omega
  clear hA0 hval0
  try simp only [List.append_nil] at hW'
  refine (writes_any a0 f0 z0 W e0).mono fun e W' ⟨he, hg⟩ => ?_
  subst he
  have h9 := fun (sp : Nat → Bool) (hsp : ∀ q ∈ p, sp q.block = true) => trodAll_mk1 (enc := enc) (P := Try.prog) (w := W') (base := 0) (spare := sp) (held := true) (s0 W' sp hg (fun q hq => hsp q (by simp [hq])))
  try simp only [List.append_nil] at h9
  exact ⟨_, rfl, post_below (pa := p) (pv := []) hW' (fun _ _ _ => trodAll_mk1 (shut_bool Try.underlying4 true)) (fun sp hsp => h9 sp hsp) (fun _ _ => rfl) (by simp) hg⟩

theorem opt6Writes_holds : Rows.Opt6WritesSaid :=
  OpenClaim.holds_of_wide 4 Try.f4 rfl rfl rfl rfl rfl rfl rfl ⟨rfl, rfl, rfl, rfl, rfl⟩ rfl rfl rfl rfl rfl (by kernel_rfl) Try.func4 (by kernel_rfl)
    (of_decide_eq_true (by kernel_rfl)) (by unfold Func.isWrapper; first | (rw [if_pos (by decide +kernel)]; kernel_rfl) | (rw [if_neg (by decide +kernel)]; exact ⟨rfl, rfl⟩))
    (fun os started H enc _ => opt6Writes_lifted os started H enc)
end Go.Proofs.Ytcpldojgmboipaa
