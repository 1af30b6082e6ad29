/-
  The statement FilesKeep: for every input the law returns true; what was handed in reads as it did. No condition beyond the row's own.
-/
import Derived.Test.YtplnfbhjplbpiaaFilKe
import Derived.Test.YtplnfbhjplbpiaaFilO
namespace Go.Proofs.Ytplnfbhjplbpiaa
open Go.ChangeShapes Go.WideShapes Go.ChangeAt Go.RowKit Go.Joins
open Go.ChangeMaps (open_string shut_string)

theorem fkeep_any {l : List Pc} {v : Value} {keep : Int} (hk : I64 keep) (hok : ∀ x ∈ l, okP x) (w : World) (h : LstG wdP 2 v l w) : Calls Try.prog 4 #[v, .int .i64 keep] w (Tells w (.bool true)) := by
  rcases h with ⟨p, c, rfl, rfl⟩ | ⟨b, o, c, rfl, h2, h3, h4⟩
  · exact fkeep_none names_ok p c keep w
  · by_cases h0 : l = []
    · subst h0
      exact fkeep_none names_ok _ c keep w
    · exact fkeep_some names_ok hk hok w h3 (List.length_pos_iff.2 h0) h2 h4
set_option maxRecDepth 100000 in
theorem filesKeep_lifted (os : Os) (started : os.Started) (H : Type) (enc : TypeId × Value → H) :
    ReturnsInHanded {} Try.checked os 4 .any (Rows.filesKeepSpec.pre6 enc Try.prog Try.f4 Rows.filesKeepRow.domain false) (Rows.filesKeepSpec.post enc Try.prog Try.f4 false true false false) := by
  refine returnsInHanded_of_change (C := Try.checked) rowOwn started (by kernel_rfl) Try.func4
    (ChangeSpec.witness6 (enc := enc) (C := Try.checked) false ⟨#[], #[.slice none 0 0, .int .i64 0], []⟩ 8 (by kernel_rfl) (by kernel_rfl) (by kernel_rfl) (by kernel_rfl)) ?_
  intro W base args ds gs before hval0 hW _ _
  have hval : ∀ (j : Nat) t v, Try.f4.params[j]? = some t → args[j]? = some v → Value.okWide Try.prog W .any base t v := hval0
  have hW' := hW
  obtain ⟨p, q, hA0, hV, rfl, _, _⟩ := hW
  have hA : DataW.TrodAll enc Try.prog W 0 (fun _ => true) true Try.f4.params.toList args.toList ds p := hA0
  rw [Try.params4] at hA hval
  obtain ⟨v0, v1, d0, d1, p0, p1, rfl, rfl, rfl, h0, h1⟩ := trodAll_two hA
  obtain ⟨rfl, rfl⟩ := trodVars_none hV
  have hlt : ∀ q ∈ p0, q.block < W.heap.size := fun q hq => hW'.lt q (by simp [hq])
  obtain ⟨l, fl, hv0, s0⟩ := open_pieces (hval 0 40 v0 rfl rfl) h0 hlt
  obtain ⟨x1, rfl, rfl, rfl, w1⟩ := open_int Try.underlying3 (hval 1 3 v1 rfl rfl) h1
  clear hA0 hval0
  simp only [List.append_nil] at hW'
  refine (fkeep_any (i64_of w1) fl W hv0).mono fun e W' ⟨he, hg⟩ => ?_
  subst he
  have h3 := fun (sp : Nat → Bool) (hsp : ∀ q ∈ p0, sp q.block = true) => trodAll_mk2 (s0 W' sp hg.toBelow hsp) (shut_int (enc := enc) (P := Try.prog) (w := W') (base := 0) (spare := sp) (held := true) Try.underlying3 w1)
  simp only [List.append_nil] at h3
  exact ⟨_, rfl, post_below (pa := p0) (pv := []) hW' (fun _ _ _ => trodAll_mk1 (shut_bool Try.underlying4 true)) (fun sp hsp => h3 sp hsp) (fun _ _ => rfl) (by simp) hg.toBelow⟩

theorem filesKeep_holds : Rows.FilesKeepSaid :=
  OpenClaim.holds_of_wide 4 Try.f4 rfl rfl rfl rfl rfl rfl rfl ⟨rfl, rfl, rfl, rfl, rfl⟩ rfl rfl rfl rfl rfl (by kernel_rfl) Try.func4 (by kernel_rfl)
    (of_decide_eq_true (by kernel_rfl)) (by unfold Func.isWrapper; first | (rw [if_pos (by decide +kernel)]; kernel_rfl) | (rw [if_neg (by decide +kernel)]; exact ⟨rfl, rfl⟩))
    (fun os started H enc _ => filesKeep_lifted os started H enc)
end Go.Proofs.Ytplnfbhjplbpiaa
