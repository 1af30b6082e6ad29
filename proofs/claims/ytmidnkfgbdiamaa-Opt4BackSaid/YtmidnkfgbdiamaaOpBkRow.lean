/-
  The statement Opt4Back: for every input the law returns true; what was handed in reads as it did. No condition beyond the row's own.
-/
import Derived.Test.YtmidnkfgbdiamaaOpBk
import Derived.Test.YtmidnkfgbdiamaaOpRow
namespace Go.Proofs.Ytmidnkfgbdiamaa
open Go.ChangeShapes Go.WideShapes Go.ChangeAt Go.RowKit Go.Joins
open Go.ChangeMaps (open_string shut_string)

set_option maxRecDepth 100000 in
theorem opt4Back_lifted (os : Os) (started : os.Started) (H : Type) (enc : TypeId × Value → H) :
    ReturnsInHanded {} Try.checked os 5 .any (Rows.opt4BackSpec.pre6 enc Try.prog Try.f5 Rows.opt4BackRow.domain false) (Rows.opt4BackSpec.post enc Try.prog Try.f5 false true false false) := by
  refine returnsInHanded_of_change_sized (C := Try.checked) rowOwn started (by kernel_rfl) Try.func5
    (ChangeSpec.witness6 (enc := enc) (C := Try.checked) false ⟨#[], #[.slice none 0 0, .slice none 0 0, .string ⟨#[]⟩], []⟩ 8 (by kernel_rfl) (by kernel_rfl) (by kernel_rfl) (by kernel_rfl)) ?_
  intro W base args ds gs before hval0 hW _ hsz0 _
  have hval : ∀ (j : Nat) t v, Try.f5.params[j]? = some t → args[j]? = some v → Value.okWide Try.prog W .any base t v := hval0
  have hsz : (DataW.weightsEach Try.prog (Try.f5.params.toList ++ Rows.opt4BackSpec.plain.varTypes Try.prog) (ds ++ gs)).all (· ≤ reachBytes) = true := hsz0
  have hW' := hW
  obtain ⟨p, q, hA0, hV, rfl, _, _⟩ := hW
  have hA : DataW.TrodAll enc Try.prog W 0 (fun _ => true) true Try.f5.params.toList args.toList ds p := hA0
  rw [Try.params5] at hA hval hsz
  obtain ⟨v0, v1, v2, d0, d1, d2, p0, p1, p2, rfl, rfl, rfl, h0, h1, h2⟩ := trodAll_three hA
  obtain ⟨rfl, rfl⟩ := trodVars_none hV
  have hlt := hW'.lt
  obtain ⟨l, m0, e0, s0⟩ := open_opts (hval 0 24 v0 rfl rfl) h0 (fun q hq => hlt q (by simp [hq]))
  obtain ⟨ar, a1, m1, e1, s1⟩ := open_strs (hval 1 22 v1 rfl rfl) h1 (fun q hq => hlt q (by simp [hq]))
  have z1 : ∀ s ∈ ar, s.size ≤ 140737488351232 := fun s hs => by
    obtain ⟨els, spare, rfl, hm⟩ := m1 s hs
    exact reach_strs hsz (j := 1) rfl rfl hm
  have z0 : l.length ≤ 9223372036854775807 := by
    rcases e0 with ⟨_, _, _, rfl, _⟩ | ⟨_, _, c, _, _, hl, _, hc⟩
    · simp
    · omega
  obtain ⟨x2, rfl, rfl, rfl, w2⟩ := open_string Try.underlying9 (hval 2 9 v2 rfl rfl) h2
  have z2 : x2.size ≤ 140737488351232 := by
    have h := sized_string hsz (j := 2) rfl rfl
    rw [← lb_len]; exact h
  clear hA0 hval0
  simp only [List.append_nil] at hW'
  refine (back_any x2 z0 a1 z1 z2 W e0 e1).mono fun e W' ⟨he, hg⟩ => ?_
  subst he
  have h9 := fun (sp : Nat → Bool) (hsp : ∀ q ∈ p0 ++ p1, sp q.block = true) => trodAll_mk3 (enc := enc) (P := Try.prog) (w := W') (base := 0) (spare := sp) (held := true) (s0 W' sp hg (fun q hq => hsp q (by simp [hq]))) (s1 W' sp hg (fun q hq => hsp q (by simp [hq]))) (shut_string Try.underlying9 w2)
  simp only [List.append_nil] at h9
  exact ⟨_, rfl, post_below (pa := p0 ++ p1) (pv := []) hW' (fun _ _ _ => trodAll_mk1 (shut_bool Try.underlying4 true)) (fun sp hsp => h9 sp hsp) (fun _ _ => rfl) (by simp) hg⟩

theorem opt4Back_holds : Rows.Opt4BackSaid :=
  OpenClaim.holds_of_wide 5 Try.f5 rfl rfl rfl rfl rfl rfl rfl ⟨rfl, rfl, rfl, rfl, rfl⟩ rfl rfl rfl rfl rfl (by kernel_rfl) Try.func5 (by kernel_rfl)
    (of_decide_eq_true (by kernel_rfl)) (by unfold Func.isWrapper; first | (rw [if_pos (by decide +kernel)]; kernel_rfl) | (rw [if_neg (by decide +kernel)]; exact ⟨rfl, rfl⟩))
    (fun os started H enc _ => opt4Back_lifted os started H enc)
end Go.Proofs.Ytmidnkfgbdiamaa
