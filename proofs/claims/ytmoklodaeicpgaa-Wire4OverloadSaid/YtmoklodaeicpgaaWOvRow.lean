/-
  The statement Wire4Overload: for every input the law returns true; what was handed in reads as it did. No condition beyond the row's own.
-/
import Derived.Test.YtmoklodaeicpgaaWOv
import Derived.Test.YtmoklodaeicpgaaWRow
namespace Go.Proofs.Ytmoklodaeicpgaa
open Go.ChangeShapes Go.WideShapes Go.ChangeAt Go.RowKit Go.Joins
open Go.ChangeMaps (open_string shut_string)

set_option maxRecDepth 100000 in
theorem wire4Overload_lifted (os : Os) (started : os.Started) (H : Type) (enc : TypeId × Value → H) :
    ReturnsInHanded {} Try.checked os 6 .any (Rows.wire4OverloadSpec.pre6 enc Try.prog Try.f6 Rows.wire4OverloadRow.domain false) (Rows.wire4OverloadSpec.post enc Try.prog Try.f6 false true false false) := by
  refine returnsInHanded_of_change_sized (C := Try.checked) rowOwn started (by kernel_rfl) Try.func6
    (ChangeSpec.witness6 (enc := enc) (C := Try.checked) false ⟨#[], #[.agg #[.int .u8 0, .int .u8 0, .int .u8 0, .int .u8 0, .int .u32 0, .int .u16 0, .int .u16 0, .int .u32 0, .int .u32 0, .int .u32 0, .int .u32 0, .string ⟨#[]⟩, .string ⟨#[]⟩, .string ⟨#[]⟩, .slice none 0 0], .slice none 0 0, .slice none 0 0], []⟩ 8 (by kernel_rfl) (by kernel_rfl) (by kernel_rfl) (by kernel_rfl)) ?_
  intro W base args ds gs before hval0 hW _ hsz0 _
  have hval : ∀ (j : Nat) t v, Try.f6.params[j]? = some t → args[j]? = some v → Value.okWide Try.prog W .any base t v := hval0
  have hsz : (DataW.weightsEach Try.prog (Try.f6.params.toList ++ Rows.wire4OverloadSpec.plain.varTypes Try.prog) (ds ++ gs)).all (· ≤ reachBytes) = true := hsz0
  have hW' := hW
  obtain ⟨p, q, hA0, hV, rfl, _, _⟩ := hW
  have hA : DataW.TrodAll enc Try.prog W 0 (fun _ => true) true Try.f6.params.toList args.toList ds p := hA0
  rw [Try.params6] at hA hval hsz
  obtain ⟨v0, v1, v2, d0, d1, d2, p0, p1, p2, rfl, rfl, rfl, h0, h1, h2⟩ := trodAll_three hA
  obtain ⟨rfl, rfl⟩ := trodVars_none hV
  have hlt := hW'.lt
  obtain ⟨m0, u0, l0, rfl, e0, ⟨pt0, du0, rfl, hd0, m_0⟩, s0⟩ := open_msg (hval 0 26 v0 rfl rfl) h0 (fun q hq => hlt q (by simp [hq]))
  have z0 : l0.length * 24 ≤ 140737488355328 := by
    rcases List.eq_nil_or_concat l0 with h | ⟨ini, x, h⟩
    · rw [h]; simp
    · obtain ⟨els, spare, rfl, hl⟩ := m_0 x (by rw [h]; simp)
      have := reach_msg hsz (j := 0) rfl rfl hd0
      omega
  obtain ⟨l1, m_1, e1, s1⟩ := open_opts (hval 1 24 v1 rfl rfl) h1 (fun q hq => hlt q (by simp [hq]))
  have z1 : l1.length * 24 ≤ 140737488355328 := by
    rcases List.eq_nil_or_concat l1 with h | ⟨ini, x, h⟩
    · rw [h]; simp
    · obtain ⟨els, spare, rfl, hl⟩ := m_1 x (by rw [h]; simp)
      have := reach_len hsz (j := 1) rfl rfl
      omega
  obtain ⟨l2, m_2, e2, s2⟩ := open_opts (hval 2 24 v2 rfl rfl) h2 (fun q hq => hlt q (by simp [hq]))
  have z2 : l2.length * 24 ≤ 140737488355328 := by
    rcases List.eq_nil_or_concat l2 with h | ⟨ini, x, h⟩
    · rw [h]; simp
    · obtain ⟨els, spare, rfl, hl⟩ := m_2 x (by rw [h]; simp)
      have := reach_len hsz (j := 2) rfl rfl
      omega
  clear hA0 hval0
  try simp only [List.append_nil] at hW'
  refine (over_law m0 z0 z1 z2 W e0 e1 e2).mono fun e W' ⟨he, hg⟩ => ?_
  subst he
  have h9 := fun (sp : Nat → Bool) (hsp : ∀ q ∈ p0 ++ p1 ++ p2, sp q.block = true) => trodAll_mk3 (enc := enc) (P := Try.prog) (w := W') (base := 0) (spare := sp) (held := true) (s0 W' sp hg (fun q hq => hsp q (by simp [hq]))) (s1 W' sp hg (fun q hq => hsp q (by simp [hq]))) (s2 W' sp hg (fun q hq => hsp q (by simp [hq])))
  try simp only [List.append_nil] at h9
  exact ⟨_, rfl, post_below (pa := p0 ++ p1 ++ p2) (pv := []) hW' (fun _ _ _ => trodAll_mk1 (shut_bool Try.underlying4 true)) (fun sp hsp => by have t := h9 sp hsp; rw [← List.append_assoc] at t; exact t) (fun _ _ => rfl) (by simp) hg⟩

theorem wire4Overload_holds : Rows.Wire4OverloadSaid :=
  OpenClaim.holds_of_wide 6 Try.f6 rfl rfl rfl rfl rfl rfl rfl ⟨rfl, rfl, rfl, rfl, rfl⟩ rfl rfl rfl rfl rfl (by kernel_rfl) Try.func6 (by kernel_rfl)
    (of_decide_eq_true (by kernel_rfl)) (by unfold Func.isWrapper; first | (rw [if_pos (by decide +kernel)]; kernel_rfl) | (rw [if_neg (by decide +kernel)]; exact ⟨rfl, rfl⟩))
    (fun os started H enc _ => wire4Overload_lifted os started H enc)
end Go.Proofs.Ytmoklodaeicpgaa
