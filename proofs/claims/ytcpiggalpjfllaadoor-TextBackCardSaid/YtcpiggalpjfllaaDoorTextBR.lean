/-
  The row of TextBack: for every prefix value and every text the law returns true. No condition beyond the row's own.
-/
import Derived.Test.YtcpiggalpjfllaaDoorTextB
import Derived.Test.YtcpiggalpjfllaaDoorTextDR
namespace Go.Proofs.YtcpiggalpjfllaaDoor
open Go.ChangeShapes Go.WideShapes Go.ChangeAt Go.RowKit Go.Joins
open Go.ChangeMaps (open_string shut_string)

theorem cellsA : Tryd.prog.cellsOf 28 = 2 := by kernel_rfl
theorem cellsP : Tryd.prog.cellsOf 33 = 3 := by kernel_rfl
theorem cellsI : Tryd.prog.cellsOf 3 = 1 := by kernel_rfl
theorem cellsU : Tryd.prog.cellsOf 26 = 1 := by kernel_rfl
set_option maxRecDepth 100000 in
theorem open_prefix {H : Type} {enc : TypeId × Value → H} {W : World} {base : Nat} {v : Value} {d : DataW H} {p : List MemPlace} {r : Reach} {b0 : Nat} {sp : Nat → Bool} {hd : Bool}
    (hv : Value.okWide Tryd.prog W r b0 33 v) (h : DataW.Trod enc Tryd.prog W base sp hd 33 v d p) :
    ∃ (a : Nat) (n : Int), Fits a ∧ (Lit.int .i64 n).wf = true ∧ v = Pv a n ∧ p = [] ∧ ∀ (W' : World) (b : Nat) (sp' : Nat → Bool) (hd' : Bool), DataW.Trod enc Tryd.prog W' b sp' hd' 33 v d [] := by
  obtain ⟨cs, rfl, hsz⟩ := okWide_struct Tryd.underlying33 hv
  obtain ⟨c0, c1, c2, rfl⟩ := array3 (hsz.trans cellsP)
  obtain ⟨fuel, hf⟩ := h
  obtain ⟨xs, k, _, hx, _, hlen, hg⟩ := DataW.trod_struct Tryd.underlying33 hf
  obtain ⟨y0, y1, rfl⟩ : ∃ y0 y1, xs = [y0, y1] := by
    match xs, hlen with
    | [y0, y1], _ => exact ⟨y0, y1, rfl⟩
  have g0 := hg 0 _ rfl
  have g1 := hg 1 _ rfl
  simp [Value.cells, cellsA, cellsI] at g0 g1
  obtain ⟨zs, k2, _, hz, _, hlen2, hg2⟩ := DataW.trod_struct Tryd.underlying28 g0
  obtain ⟨z0, z1, rfl⟩ : ∃ z0 z1, zs = [z0, z1] := by
    match zs, hlen2 with
    | [z0, z1], _ => exact ⟨z0, z1, rfl⟩
  have e0 := hg2 0 _ rfl
  have e1 := hg2 1 _ rfl
  simp [cellsU] at e0 e1
  obtain ⟨x, f0, rfl, wx⟩ := DataW.trod_int Tryd.underlying26 e0
  obtain ⟨y, f1, rfl, wy⟩ := DataW.trod_int Tryd.underlying26 e1
  obtain ⟨n, f2, rfl, wn⟩ := DataW.trod_int Tryd.underlying3 g1
  simp at f0 f1 f2
  subst f0 f1 f2
  simp at hz
  subst hz
  simp at hx
  obtain ⟨rfl, rfl⟩ := hx
  have bx : 0 ≤ x ∧ x ≤ 18446744073709551615 := by simpa [Lit.wf, IntKind.min, IntKind.max, IntKind.signed, IntKind.bits] using wx
  have bz : 0 ≤ y ∧ y ≤ 18446744073709551615 := by simpa [Lit.wf, IntKind.min, IntKind.max, IntKind.signed, IntKind.bits] using wy
  obtain ⟨j, rfl⟩ := Int.eq_ofNat_of_zero_le bx.1
  obtain ⟨i, rfl⟩ := Int.eq_ofNat_of_zero_le bz.1
  refine ⟨j * 18446744073709551616 + i, n, fits_mk (by omega) (by omega), wn, ?_, rfl, ?_⟩
  · rw [Pv, hi_mk (by omega), lo_mk (by omega)]
  · intro W' b sp' hd'
    exact ⟨3, by simp [DataW.trod, Value.cells, Tryd.underlying33, Tryd.underlying28, Tryd.underlying26, Tryd.underlying3, cellsA, cellsP, cellsI, cellsU, wx, wy, wn]⟩

set_option maxRecDepth 100000 in
theorem textBack_lifted (os : Os) (started : os.Started) (H : Type) (enc : TypeId × Value → H) :
    ReturnsInHanded {} Tryd.checked os 4 .any (fun w args => (Rows.textBackSpec.pre enc Tryd.prog Tryd.f4 Rows.textBackRow.domain false w args ∧ laidMetH Tryd.prog laidAll w) ∧ sizedMet enc Tryd.prog Tryd.f4 (OpenSpec.ofChange Rows.textBackSpec) false w args)
      (Rows.textBackSpec.post enc Tryd.prog Tryd.f4 false true false false) := by
  refine lifted_both (C := Tryd.checked) (X := fun w _ => laidMetH Tryd.prog laidAll w) (fun _ _ _ hh h => h.of_heap hh) own started (by kernel_rfl) Tryd.func4
    (ChangeSpec.witness_shaped (enc := enc) (C := Tryd.checked) (os := os) (X := fun w _ => laidMetH Tryd.prog laidAll w) false (World.laidAll Tryd.prog os laidAll) #[.agg #[.int .u64 0, .int .u64 0, .int .i64 0], .string ⟨#[]⟩] 8 (World.laidAll_os _ _ _) (World.shaped_of_ZipB (by kernel_rfl) (by kernel_rfl)) (by kernel_rfl) (by kernel_rfl) (by kernel_rfl) (door_met os _)) ?_
  intro W base args ds gs before hval0 hW hL hsh
  have hval : ∀ (j : Nat) t v, Tryd.f4.params[j]? = some t → args[j]? = some v → Value.okWide Tryd.prog W .any base t v := hval0
  have hW' := hW
  obtain ⟨p, q, hA0, hV, rfl, _, _⟩ := hW
  have hA : DataW.TrodAll enc Tryd.prog W 0 (fun _ => true) true Tryd.f4.params.toList args.toList ds p := hA0
  rw [Tryd.params4] at hA hval
  obtain ⟨v0, v1, d0, d1, p0, p1, rfl, rfl, rfl, h0, h1⟩ := trodAll_two hA
  obtain ⟨rfl, rfl⟩ := trodVars_none hV
  obtain ⟨x0, n0, q0, m0, rfl, rfl, s0⟩ := open_prefix (hval 0 33 v0 rfl rfl) h0
  obtain ⟨s, rfl, rfl, rfl, ws⟩ := open_string Tryd.underlying9 (hval 1 9 v1 rfl rfl) h1
  have wn : -9223372036854775808 ≤ n0 ∧ n0 ≤ 9223372036854775807 := by simpa [Lit.wf, IntKind.min, IntKind.max, IntKind.signed, IntKind.bits] using m0
  clear hA0 hval0
  simp only [List.append_nil] at hW'
  refine (back_any q0 wn.1 wn.2 s W (vo_of hL hsh)).mono fun e W' ⟨he, hg⟩ => ?_
  subst he
  exact ⟨_, rfl, post_below (pa := []) (pv := []) hW' (fun _ _ _ => trodAll_mk1 (shut_bool Tryd.underlying4 true)) (fun sp _ => trodAll_mk2 (s0 W' 0 sp true) (shut_string Tryd.underlying9 ws)) (fun _ _ => rfl) rfl hg⟩

theorem textBack_holds : Rows.TextBackSaid :=
  OpenClaim.holds_of_wide 4 Tryd.f4 rfl rfl rfl rfl rfl rfl rfl ⟨rfl, rfl, rfl, rfl, rfl⟩ rfl rfl rfl rfl rfl (by kernel_rfl) Tryd.func4 (by kernel_rfl)
    (of_decide_eq_true (by kernel_rfl)) (by unfold Func.isWrapper; first | (rw [if_pos (by decide +kernel)]; kernel_rfl) | (rw [if_neg (by decide +kernel)]; exact ⟨rfl, rfl⟩))
    (fun os started H enc _ => textBack_lifted os started H enc)
end Go.Proofs.YtcpiggalpjfllaaDoor
