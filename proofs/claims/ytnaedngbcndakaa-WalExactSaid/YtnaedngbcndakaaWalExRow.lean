/-
  The statement WalExact: for every input the law returns true; what was handed in reads as it did. No condition beyond the row's own.
-/
import Derived.Test.YtnaedngbcndakaaWalEx
import Derived.Test.YtnaedngbcndakaaFilRow
namespace Go.Proofs.Ytnaedngbcndakaa
open Go.ChangeShapes Go.WideShapes Go.ChangeAt Go.RowKit Go.Joins
open Go.ChangeMaps (open_string shut_string)

theorem exact_row {x : Nm} {l : List Op7} {v : Value} (hx : x.length ≤ maxLen) (hok : ∀ y ∈ l, okO y ∧ y.data.length ≤ 140737488351232) (w : World) (h : LstG wdO 4 v l w) : Calls Try.prog 4 #[St x, v] w (Tells w (.bool true)) := by
  rcases h with ⟨p, c, rfl, rfl⟩ | ⟨b, o, c, rfl, h2, _, h4⟩
  · exact exact_any (l := []) hx (fun x hx => by simp at hx) w (fun W F k hk => by simp at hk)
  · have hc : ∀ W, Fr No w W → ∀ k (hk : k < l.length) i u, (wdO l[k])[i]? = some u → W.cell? ⟨b, o + k * 4 + i, none⟩ = some u := fun W F k hk i u hu => by
      rw [World.cell?_of_block (a := ⟨b, o + k * 4 + i, none⟩) (F.block b h2 (fun e => e))]
      exact h4 k l[k] (List.getElem?_eq_getElem hk) i u hu
    exact exact_any hx hok w (fun W F k hk => ⟨b, o, rfl, hc W F k hk 0 _ rfl, hc W F k hk 1 _ rfl, hc W F k hk 2 _ rfl, hc W F k hk 3 _ rfl⟩)
set_option maxRecDepth 100000 in
theorem walExact_lifted (os : Os) (started : os.Started) (H : Type) (enc : TypeId × Value → H) :
    ReturnsInHanded {} Try.checked os 4 .any (Rows.walExactSpec.pre6 enc Try.prog Try.f4 Rows.walExactRow.domain false) (Rows.walExactSpec.post enc Try.prog Try.f4 false true false false) := by
  refine returnsInHanded_of_change_sized (C := Try.checked) rowOwn started (by kernel_rfl) Try.func4
    (ChangeSpec.witness6 (enc := enc) (C := Try.checked) false ⟨#[], #[.string ⟨#[]⟩, .slice none 0 0], []⟩ 8 (by kernel_rfl) (by kernel_rfl) (by kernel_rfl) (by kernel_rfl)) ?_
  intro W base args ds gs before hval0 hW _ hsz0 _
  have hval : ∀ (j : Nat) t v, Try.f4.params[j]? = some t → args[j]? = some v → Value.okWide Try.prog W .any base t v := hval0
  have hsz : (DataW.weightsEach Try.prog (Try.f4.params.toList ++ Rows.walExactSpec.plain.varTypes Try.prog) (ds ++ gs)).all (· ≤ reachBytes) = true := hsz0
  have hW' := hW
  obtain ⟨p, q, hA0, hV, rfl, _, _⟩ := hW
  have hA : DataW.TrodAll enc Try.prog W 0 (fun _ => true) true Try.f4.params.toList args.toList ds p := hA0
  rw [Try.params4] at hA hval hsz
  obtain ⟨v0, v1, d0, d1, p0, p1, rfl, rfl, rfl, h0, h1⟩ := trodAll_two hA
  obtain ⟨rfl, rfl⟩ := trodVars_none hV
  obtain ⟨x0, rfl, rfl, rfl, w0⟩ := open_string Try.underlying9 (hval 0 9 v0 rfl rfl) h0
  have hlt : ∀ q ∈ p1, q.block < W.heap.size := fun q hq => hW'.lt q (by simp [hq])
  obtain ⟨l, fl, hin, hv0, s0⟩ := open_ops (hval 1 31 v1 rfl rfl) h1 hlt
  have z0 : ∀ x ∈ l, okO x ∧ x.data.length ≤ 140737488351232 := fun x hx => ⟨fl x hx, by
    obtain ⟨els, spare, rfl, hm⟩ := hin x hx
    exact reach_ops hsz (j := 1) rfl rfl hm⟩
  clear hA0 hval0
  simp only [List.append_nil, List.nil_append] at hW'
  have CC := exact_row (x := x0.data.toList) w0 z0 W hv0
  rw [← st_of] at CC
  refine CC.mono fun e W' ⟨he, hg⟩ => ?_
  subst he
  have h3 := fun (sp : Nat → Bool) (hsp : ∀ q ∈ p1, sp q.block = true) => trodAll_mk2 (enc := enc) (P := Try.prog) (w := W') (base := 0) (spare := sp) (held := true) (shut_string Try.underlying9 w0) (s0 W' sp hg.toBelow hsp)
  simp only [List.nil_append] at h3
  exact ⟨_, rfl, post_below (pa := p1) (pv := []) hW' (fun _ _ _ => trodAll_mk1 (shut_bool Try.underlying4 true)) (fun sp hsp => h3 sp hsp) (fun _ _ => rfl) (by simp) hg.toBelow⟩

theorem walExact_holds : Rows.WalExactSaid :=
  OpenClaim.holds_of_wide 4 Try.f4 rfl rfl rfl rfl rfl rfl rfl ⟨rfl, rfl, rfl, rfl, rfl⟩ rfl rfl rfl rfl rfl (by kernel_rfl) Try.func4 (by kernel_rfl)
    (of_decide_eq_true (by kernel_rfl)) (by unfold Func.isWrapper; first | (rw [if_pos (by decide +kernel)]; kernel_rfl) | (rw [if_neg (by decide +kernel)]; exact ⟨rfl, rfl⟩))
    (fun os started H enc _ => walExact_lifted os started H enc)
end Go.Proofs.Ytnaedngbcndakaa
