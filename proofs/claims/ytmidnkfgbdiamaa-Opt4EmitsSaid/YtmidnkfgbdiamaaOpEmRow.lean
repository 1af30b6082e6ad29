/-
  The statement Opt4Emits: for every input the law returns true; what was handed in reads as it did. No condition beyond the row's own.
-/
import Derived.Test.YtmidnkfgbdiamaaOpEm
import Derived.Test.YtmidnkfgbdiamaaOpRow
namespace Go.Proofs.Ytmidnkfgbdiamaa
open Go.ChangeShapes Go.WideShapes Go.ChangeAt Go.RowKit Go.Joins
open Go.ChangeMaps (open_string shut_string)

set_option maxRecDepth 100000 in
theorem opt4Emits_lifted (os : Os) (started : os.Started) (H : Type) (enc : TypeId × Value → H) :
    ReturnsInHanded {} Try.checked os 4 .any (Rows.opt4EmitsSpec.pre6 enc Try.prog Try.f4 Rows.opt4EmitsRow.domain false) (Rows.opt4EmitsSpec.post enc Try.prog Try.f4 false true false false) := by
  refine returnsInHanded_of_change_sized (C := Try.checked) rowOwn started (by kernel_rfl) Try.func4
    (ChangeSpec.witness6 (enc := enc) (C := Try.checked) false ⟨#[], #[.slice none 0 0, .int .u8 0], []⟩ 8 (by kernel_rfl) (by kernel_rfl) (by kernel_rfl) (by kernel_rfl)) ?_
  intro W base args ds gs before hval0 hW _ hsz0 _
  have hval : ∀ (j : Nat) t v, Try.f4.params[j]? = some t → args[j]? = some v → Value.okWide Try.prog W .any base t v := hval0
  have hsz : (DataW.weightsEach Try.prog (Try.f4.params.toList ++ Rows.opt4EmitsSpec.plain.varTypes Try.prog) (ds ++ gs)).all (· ≤ reachBytes) = true := hsz0
  have hW' := hW
  obtain ⟨p, q, hA0, hV, rfl, _, _⟩ := hW
  have hA : DataW.TrodAll enc Try.prog W 0 (fun _ => true) true Try.f4.params.toList args.toList ds p := hA0
  rw [Try.params4] at hA hval hsz
  obtain ⟨v0, v1, d0, d1, p0, p1, rfl, rfl, rfl, h0, h1⟩ := trodAll_two hA
  obtain ⟨rfl, rfl⟩ := trodVars_none hV
  have hlt := hW'.lt
  obtain ⟨l, _, e0, s0⟩ := open_opts (hval 0 24 v0 rfl rfl) h0 (fun q hq => hlt q (by simp [hq]))
  obtain ⟨x1, rfl, rfl, rfl, w1⟩ := open_int Try.underlying5 (hval 1 5 v1 rfl rfl) h1
  obtain ⟨c1, rfl⟩ := byte_of_wf w1
  have z0 : l.length ≤ 9223372036854775807 := by
    rcases e0 with ⟨_, _, _, rfl, _⟩ | ⟨_, _, c, _, _, hl, _, hc⟩
    · simp
    · omega
  clear hA0 hval0
  simp only [List.append_nil] at hW'
  refine (lawemits_any c1 z0 W e0).mono fun e W' ⟨he, hg⟩ => ?_
  subst he
  have h9 := fun (sp : Nat → Bool) (hsp : ∀ q ∈ p0, sp q.block = true) => trodAll_mk2 (enc := enc) (P := Try.prog) (w := W') (base := 0) (spare := sp) (held := true) (s0 W' sp hg hsp) (shut_int Try.underlying5 w1)
  simp only [List.append_nil] at h9
  exact ⟨_, rfl, post_below (pa := p0) (pv := []) hW' (fun _ _ _ => trodAll_mk1 (shut_bool Try.underlying4 true)) (fun sp hsp => h9 sp (fun q hq => hsp q (by simp [hq]))) (fun _ _ => rfl) (by simp) hg⟩

theorem opt4Emits_holds : Rows.Opt4EmitsSaid :=
  OpenClaim.holds_of_wide 4 Try.f4 rfl rfl rfl rfl rfl rfl rfl ⟨rfl, rfl, rfl, rfl, rfl⟩ rfl rfl rfl rfl rfl (by kernel_rfl) Try.func4 (by kernel_rfl)
    (of_decide_eq_true (by kernel_rfl)) (by unfold Func.isWrapper; first | (rw [if_pos (by decide +kernel)]; kernel_rfl) | (rw [if_neg (by decide +kernel)]; exact ⟨rfl, rfl⟩))
    (fun os started H enc _ => opt4Emits_lifted os started H enc)
end Go.Proofs.Ytmidnkfgbdiamaa
