/-
  The statement WalCrash: for every input the law returns true; what was handed in reads as it did. No condition beyond the row's own.
-/
import Derived.Test.YtnaedngbcndakaaWalCw
import Derived.Test.YtnaedngbcndakaaFilRow
namespace Go.Proofs.Ytnaedngbcndakaa
open Go.ChangeShapes Go.WideShapes Go.ChangeAt Go.RowKit Go.Joins
open Go.ChangeMaps (open_string shut_string)

theorem crash_row {l : List Pc} {v : Value} (cut : Int) {keep : Int} (hk : I64 keep) (hdl : ∀ x ∈ l, x.data.length ≤ 140737488351232) (w : World) (h : LstG wdP 2 v l w) : Calls Try.prog 5 #[v, .int .i64 cut, .int .i64 keep] w (Tells w (.bool true)) := by
  rcases h with ⟨p, c, rfl, rfl⟩ | ⟨b, o, c, rfl, h2, _, h4⟩
  · exact crash_any (l := []) cut hk (fun x hx => by simp at hx) w (hide (fun W F k hk => by simp at hk))
  · exact crash_any cut hk hdl w (hide (fun W F k hk => ⟨b, o, rfl, by
      rw [World.cell?_of_block (a := ⟨b, o + k * 2, none⟩) (F.block b h2 (fun e => e))]
      exact h4 k l[k] (List.getElem?_eq_getElem hk) 0 _ rfl, by
      rw [World.cell?_of_block (a := ⟨b, o + k * 2 + 1, none⟩) (F.block b h2 (fun e => e))]
      exact h4 k l[k] (List.getElem?_eq_getElem hk) 1 _ rfl⟩))
set_option maxRecDepth 100000 in
theorem walCrash_lifted (os : Os) (started : os.Started) (H : Type) (enc : TypeId × Value → H) :
    ReturnsInHanded {} Try.checked os 5 .any (Rows.walCrashSpec.pre6 enc Try.prog Try.f5 Rows.walCrashRow.domain false) (Rows.walCrashSpec.post enc Try.prog Try.f5 false true false false) := by
  refine returnsInHanded_of_change_sized (C := Try.checked) rowOwn started (by kernel_rfl) Try.func5
    (ChangeSpec.witness6 (enc := enc) (C := Try.checked) false ⟨#[], #[.slice none 0 0, .int .i64 0, .int .i64 0], []⟩ 8 (by kernel_rfl) (by kernel_rfl) (by kernel_rfl) (by kernel_rfl)) ?_
  intro W base args ds gs before hval0 hW _ hsz0 _
  have hval : ∀ (j : Nat) t v, Try.f5.params[j]? = some t → args[j]? = some v → Value.okWide Try.prog W .any base t v := hval0
  have hsz : (DataW.weightsEach Try.prog (Try.f5.params.toList ++ Rows.walCrashSpec.plain.varTypes Try.prog) (ds ++ gs)).all (· ≤ reachBytes) = true := hsz0
  have hW' := hW
  obtain ⟨p, q, hA0, hV, rfl, _, _⟩ := hW
  have hA : DataW.TrodAll enc Try.prog W 0 (fun _ => true) true Try.f5.params.toList args.toList ds p := hA0
  rw [Try.params5] at hA hval hsz
  obtain ⟨v0, v1, v2, d0, d1, d2, p0, p1, p2, rfl, rfl, rfl, h0, h1, h2⟩ := trodAll_three hA
  obtain ⟨rfl, rfl⟩ := trodVars_none hV
  have hlt : ∀ q ∈ p0, q.block < W.heap.size := fun q hq => hW'.lt q (by simp [hq])
  obtain ⟨l, fl, hin, hv0, s0⟩ := open_puts (hval 0 51 v0 rfl rfl) h0 hlt
  obtain ⟨x1, rfl, rfl, rfl, w1⟩ := open_int Try.underlying3 (hval 1 3 v1 rfl rfl) h1
  obtain ⟨x2, rfl, rfl, rfl, w2⟩ := open_int Try.underlying3 (hval 2 3 v2 rfl rfl) h2
  have rch : ∀ x ∈ l, x.data.length ≤ 140737488351232 := fun x hx => by
    obtain ⟨els, spare, rfl, h⟩ := hin x hx
    exact reach_puts hsz (j := 0) rfl rfl h
  clear hA0 hval0
  simp only [List.append_nil] at hW'
  refine (crash_row x1 (i64_of w2) rch W hv0).mono fun e W' ⟨he, hg⟩ => ?_
  subst he
  have h3 := fun (sp : Nat → Bool) (hsp : ∀ q ∈ p0, sp q.block = true) => trodAll_mk3 (s0 W' sp hg.toBelow hsp) (shut_int (enc := enc) (P := Try.prog) (w := W') (base := 0) (spare := sp) (held := true) Try.underlying3 w1) (shut_int (enc := enc) (P := Try.prog) (w := W') (base := 0) (spare := sp) (held := true) Try.underlying3 w2)
  simp only [List.append_nil] at h3
  exact ⟨_, rfl, post_below (pa := p0) (pv := []) hW' (fun _ _ _ => trodAll_mk1 (shut_bool Try.underlying4 true)) (fun sp hsp => h3 sp hsp) (fun _ _ => rfl) (by simp) hg.toBelow⟩

theorem walCrash_holds : Rows.WalCrashSaid :=
  OpenClaim.holds_of_wide 5 Try.f5 rfl rfl rfl rfl rfl rfl rfl ⟨rfl, rfl, rfl, rfl, rfl⟩ rfl rfl rfl rfl rfl (by kernel_rfl) Try.func5 (by kernel_rfl)
    (of_decide_eq_true (by kernel_rfl)) (by unfold Func.isWrapper; first | (rw [if_pos (by decide +kernel)]; kernel_rfl) | (rw [if_neg (by decide +kernel)]; exact ⟨rfl, rfl⟩))
    (fun os started H enc _ => walCrash_lifted os started H enc)
end Go.Proofs.Ytnaedngbcndakaa
