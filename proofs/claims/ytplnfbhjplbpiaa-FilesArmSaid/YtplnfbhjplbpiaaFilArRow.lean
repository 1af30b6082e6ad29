/-
  The statement FilesArm: for every input the law returns true; what was handed in reads as it did. No condition beyond the row's own.
-/
import Derived.Test.YtplnfbhjplbpiaaFilAr
import Derived.Test.YtplnfbhjplbpiaaFilO
namespace Go.Proofs.Ytplnfbhjplbpiaa
open Go.ChangeShapes Go.WideShapes Go.ChangeAt Go.RowKit Go.Joins
open Go.ChangeMaps (open_string shut_string)

set_option maxRecDepth 100000 in
theorem filesArm_lifted (os : Os) (started : os.Started) (H : Type) (enc : TypeId × Value → H) :
    ReturnsInHanded {} Try.checked os 5 .any (Rows.filesArmSpec.pre6 enc Try.prog Try.f5 Rows.filesArmRow.domain false) (Rows.filesArmSpec.post enc Try.prog Try.f5 false true false false) := by
  refine returnsInHanded_of_change_sized (C := Try.checked) rowOwn started (by kernel_rfl) Try.func5
    (ChangeSpec.witness6 (enc := enc) (C := Try.checked) false ⟨#[], #[.slice none 0 0, .int .i64 0, .agg #[.int .i64 0, .int .i64 0, .string ⟨#[]⟩, .string ⟨#[]⟩, .int .i64 0, .int .i64 0]], []⟩ 8 (by kernel_rfl) (by kernel_rfl) (by kernel_rfl) (by kernel_rfl)) ?_
  intro W base args ds gs before hval0 hW _ hsz0 _
  have hval : ∀ (j : Nat) t v, Try.f5.params[j]? = some t → args[j]? = some v → Value.okWide Try.prog W .any base t v := hval0
  have hsz : (DataW.weightsEach Try.prog (Try.f5.params.toList ++ Rows.filesArmSpec.plain.varTypes Try.prog) (ds ++ gs)).all (· ≤ reachBytes) = true := hsz0
  have hW' := hW
  obtain ⟨p, q, hA0, hV, rfl, _, _⟩ := hW
  have hA : DataW.TrodAll enc Try.prog W 0 (fun _ => true) true Try.f5.params.toList args.toList ds p := hA0
  rw [Try.params5] at hA hval hsz
  obtain ⟨v0, v1, v2, d0, d1, d2, p0, p1, p2, rfl, rfl, rfl, h0, h1, h2⟩ := trodAll_three hA
  obtain ⟨rfl, rfl⟩ := trodVars_none hV
  have hlt : ∀ q ∈ p0, q.block < W.heap.size := fun q hq => hW'.lt q (by simp [hq])
  obtain ⟨l, fl, ml, hv0, s0⟩ := open_ops (hval 0 22 v0 rfl rfl) h0 hlt
  obtain ⟨x1, rfl, rfl, rfl, w1⟩ := open_int Try.underlying3 (hval 1 3 v1 rfl rfl) h1
  obtain ⟨x2, q2, rfl, rfl, rfl, s2⟩ := open_oneop (hval 2 29 v2 rfl rfl) h2
  have z2 := reach_one (x := x2) hsz (j := 2) rfl rfl
  have z0 : ∀ x ∈ l, okO x ∧ x.data.length ≤ 140737488351232 := fun x hx => ⟨fl x hx, by
    obtain ⟨els, spare, rfl, hm⟩ := ml x hx
    exact reach_ops hsz (j := 0) rfl rfl hm⟩
  clear hA0 hval0
  simp only [List.append_nil] at hW'
  obtain ⟨pp, cc, rfl, ho, _⟩ := lst_ops hv0
  refine (farm_any (c := cc) (n := x1) q2 z2 z0 W ho).mono fun e W' ⟨he, hg⟩ => ?_
  subst he
  have h3 := fun (sp : Nat → Bool) (hsp : ∀ q ∈ p0, sp q.block = true) => trodAll_mk3 (s0 W' sp hg.toBelow hsp) (shut_int (enc := enc) (P := Try.prog) (w := W') (base := 0) (spare := sp) (held := true) Try.underlying3 w1) (s2 W' 0 sp true)
  simp only [List.append_nil] at h3
  exact ⟨_, rfl, post_below (pa := p0) (pv := []) hW' (fun _ _ _ => trodAll_mk1 (shut_bool Try.underlying4 true)) (fun sp hsp => h3 sp hsp) (fun _ _ => rfl) (by simp) hg.toBelow⟩

theorem filesArm_holds : Rows.FilesArmSaid :=
  OpenClaim.holds_of_wide 5 Try.f5 rfl rfl rfl rfl rfl rfl rfl ⟨rfl, rfl, rfl, rfl, rfl⟩ rfl rfl rfl rfl rfl (by kernel_rfl) Try.func5 (by kernel_rfl)
    (of_decide_eq_true (by kernel_rfl)) (by unfold Func.isWrapper; first | (rw [if_pos (by decide +kernel)]; kernel_rfl) | (rw [if_neg (by decide +kernel)]; exact ⟨rfl, rfl⟩))
    (fun os started H enc _ => filesArm_lifted os started H enc)
end Go.Proofs.Ytplnfbhjplbpiaa
