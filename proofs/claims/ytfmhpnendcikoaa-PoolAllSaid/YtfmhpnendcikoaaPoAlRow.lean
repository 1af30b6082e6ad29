/-
  The statement PoolAll: for every input the law returns true; what was handed in reads as it did. No condition beyond the row's own.
-/
import Derived.Test.YtfmhpnendcikoaaPoAl
import Derived.Test.YtfmhpnendcikoaaPoRow
namespace Go.Proofs.Ytfmhpnendcikoaa
open Go.ChangeShapes Go.WideShapes Go.ChangeAt Go.RowKit Go.Joins

theorem draws_at {v : Value} {l : List Nat} {W : World} (h : LstU v l W) : ∃ q c, v = .slice q l.length c ∧ ∀ W', Below W.heap.size W W' → ∀ (j x : Nat), l[j]? = some x → ∃ b o, q = some ⟨b, o, none⟩ ∧ W'.cell? ⟨b, o + j, none⟩ = some (.int .u64 (x : Nat)) := by
  rcases h with ⟨p, c, rfl, rfl⟩ | ⟨b, o, c, rfl, hb, _, hx⟩
  · exact ⟨p, c, rfl, fun W' _ j x h => by simp at h⟩
  · exact ⟨_, c, rfl, fun W' hB j x h => ⟨b, o, rfl, keep_cell hB (hx j x h)⟩⟩
set_option maxRecDepth 100000 in
theorem poolAll_lifted (os : Os) (started : os.Started) (H : Type) (enc : TypeId × Value → H) :
    ReturnsInHanded {} Try.checked os 5 .any (Rows.poolAllSpec.pre6 enc Try.prog Try.f5 Rows.poolAllRow.domain false) (Rows.poolAllSpec.post enc Try.prog Try.f5 false true false false) := by
  refine returnsInHanded_of_change (C := Try.checked) rowOwn started (by kernel_rfl) Try.func5
    (ChangeSpec.witness6 (enc := enc) (C := Try.checked) false ⟨#[], #[.slice none 0 0, .slice none 0 0, .slice none 0 0], []⟩ 8 (by kernel_rfl) (by kernel_rfl) (by kernel_rfl) (by kernel_rfl)) ?_
  intro W base args ds gs before hval0 hW _ _
  have hval : ∀ (j : Nat) t v, Try.f5.params[j]? = some t → args[j]? = some v → Value.okWide Try.prog W .any base t v := hval0
  have hW' := hW
  obtain ⟨p, q, hA0, hV, rfl, _, _⟩ := hW
  have hA : DataW.TrodAll enc Try.prog W 0 (fun _ => true) true Try.f5.params.toList args.toList ds p := hA0
  rw [Try.params5] at hA hval
  obtain ⟨v0, v1, v2, d0, d1, d2, p0, p1, p2, rfl, rfl, rfl, h0, h1, h2⟩ := trodAll_three hA
  obtain ⟨rfl, rfl⟩ := trodVars_none hV
  obtain ⟨l0, fl0, hv0, s0⟩ := open_rows (hval 0 28 v0 rfl rfl) h0 (fun q hq => hW'.lt q (by simp [hq]))
  obtain ⟨l1, fl1, hv1, s1⟩ := open_addrs (hval 1 25 v1 rfl rfl) h1 (fun q hq => hW'.lt q (by simp [hq]))
  obtain ⟨l2, fl2, hv2, s2⟩ := open_words (hval 2 43 v2 rfl rfl) h2 (fun q hq => hW'.lt q (by simp [hq]))
  obtain ⟨qd, cd, rfl, hdr⟩ := draws_at hv2
  clear hA0 hval0
  simp only [List.append_nil] at hW'
  refine (all_any fl0 fl1 fl2 W hv0 hv1 hdr).mono fun e W' ⟨he, hb⟩ => ?_
  subst he
  exact ⟨_, rfl, post_below (pa := p0 ++ (p1 ++ p2)) (pv := []) hW' (fun _ _ _ => trodAll_mk1 (shut_bool Try.underlying4 true)) (fun sp hsp => by have h9 := trodAll_mk3 (s0 W' sp hb (fun q hq => hsp q (by simp [hq]))) (s1 W' sp hb (fun q hq => hsp q (by simp [hq]))) (s2 W' sp hb (fun q hq => hsp q (by simp [hq]))); (try simp only [List.append_nil] at h9); exact h9) (fun _ _ => rfl) (by simp) hb⟩

theorem poolAll_holds : Rows.PoolAllSaid :=
  OpenClaim.holds_of_wide 5 Try.f5 rfl rfl rfl rfl rfl rfl rfl ⟨rfl, rfl, rfl, rfl, rfl⟩ rfl rfl rfl rfl rfl (by kernel_rfl) Try.func5 (by kernel_rfl)
    (of_decide_eq_true (by kernel_rfl)) (by unfold Func.isWrapper; first | (rw [if_pos (by decide +kernel)]; kernel_rfl) | (rw [if_neg (by decide +kernel)]; exact ⟨rfl, rfl⟩))
    (fun os started H enc _ => poolAll_lifted os started H enc)
end Go.Proofs.Ytfmhpnendcikoaa
