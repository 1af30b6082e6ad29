/-
  The statement AddrPrefixes: for all prefix values p, q and every address the law returns true: what prefixes are, their addresses and halves, and which cover or meet one another is what the document's own answers say, of raw values too. No condition beyond the row's own.
-/
import Derived.Test.YtlbconflbaohfaaAddrPf
import Derived.Test.YtlbconflbaohfaaAddrRow
namespace Go.Proofs.Ytlbconflbaohfaa
open Go.ChangeShapes Go.WideShapes Go.ChangeAt Go.RowKit Go.Joins


theorem cellsI : Try.prog.cellsOf 3 = 1 := by kernel_rfl
theorem cellsU : Try.prog.cellsOf 22 = 1 := by kernel_rfl
theorem open_prefix {H : Type} {enc : TypeId × Value → H} {W : World} {base : Nat} {v : Value} {d : DataW H} {p : List MemPlace} {r : Reach} {b0 : Nat} {sp : Nat → Bool} {hd : Bool}
    (hv : Value.okWide Try.prog W r b0 36 v) (h : DataW.Trod enc Try.prog W base sp hd 36 v d p) :
    ∃ (a : Nat) (n : Int), Fits a ∧ (Lit.int .i64 n).wf = true ∧ v = Pv a n ∧ p = [] ∧ ∀ (W' : World) (b : Nat) (sp' : Nat → Bool) (hd' : Bool), DataW.Trod enc Try.prog W' b sp' hd' 36 v d [] := by
  obtain ⟨cs, rfl, hsz⟩ := okWide_struct Try.underlying36 hv
  obtain ⟨c0, c1, c2, rfl⟩ := array3 (hsz.trans cellsP)
  obtain ⟨fuel, hf⟩ := h
  obtain ⟨xs, k, _, hx, _, hlen, hg⟩ := DataW.trod_struct Try.underlying36 hf
  obtain ⟨y0, y1, rfl⟩ : ∃ y0 y1, xs = [y0, y1] := by
    match xs, hlen with
    | [y0, y1], _ => exact ⟨y0, y1, rfl⟩
  have g0 := hg 0 _ rfl
  have g1 := hg 1 _ rfl
  simp [Value.cells, cellsA, cellsI] at g0 g1
  obtain ⟨zs, k2, _, hz, _, hlen2, hg2⟩ := DataW.trod_struct Try.underlying24 g0
  obtain ⟨z0, z1, rfl⟩ : ∃ z0 z1, zs = [z0, z1] := by
    match zs, hlen2 with
    | [z0, z1], _ => exact ⟨z0, z1, rfl⟩
  have e0 := hg2 0 _ rfl
  have e1 := hg2 1 _ rfl
  simp [cellsU] at e0 e1
  obtain ⟨x, f0, rfl, wx⟩ := DataW.trod_int Try.underlying22 e0
  obtain ⟨y, f1, rfl, wy⟩ := DataW.trod_int Try.underlying22 e1
  obtain ⟨n, f2, rfl, wn⟩ := DataW.trod_int Try.underlying3 g1
  simp at f0 f1 f2
  subst f0 f1 f2
  simp at hz
  subst hz
  simp at hx
  obtain ⟨rfl, rfl⟩ := hx
  have bx : 0 ≤ x ∧ x ≤ 18446744073709551615 := by simpa [Lit.wf, IntKind.min, IntKind.max, IntKind.signed, IntKind.bits] using wx
  have bz : 0 ≤ y ∧ y ≤ 18446744073709551615 := by simpa [Lit.wf, IntKind.min, IntKind.max, IntKind.signed, IntKind.bits] using wy
  obtain ⟨j, rfl⟩ := Int.eq_ofNat_of_zero_le bx.1
  obtain ⟨i, rfl⟩ := Int.eq_ofNat_of_zero_le bz.1
  refine ⟨j * 18446744073709551616 + i, n, fits_mk (by omega) (by omega), wn, ?_, rfl, ?_⟩
  · rw [Pv, hi_mk (by omega), lo_mk (by omega)]
  · intro W' b sp' hd'
    exact ⟨3, by simp [DataW.trod, Value.cells, Try.underlying36, Try.underlying24, Try.underlying22, Try.underlying3, cellsA, cellsP, cellsI, cellsU, wx, wy, wn]⟩

set_option maxRecDepth 100000 in
theorem addrPrefixes_lifted (os : Os) (started : os.Started) (H : Type) (enc : TypeId × Value → H) :
    ReturnsInHanded {} Try.checked os 4 .any (Rows.addrPrefixesSpec.pre6 enc Try.prog Try.f4 Rows.addrPrefixesRow.domain false) (Rows.addrPrefixesSpec.post enc Try.prog Try.f4 false true false false) := by
  refine returnsInHanded_of_change (C := Try.checked) own started (by kernel_rfl) Try.func4
    (ChangeSpec.witness6 (enc := enc) (C := Try.checked) false ⟨#[], #[.agg #[.int .u64 0, .int .u64 0, .int .i64 0], .agg #[.int .u64 0, .int .u64 0, .int .i64 0], .agg #[.int .u64 0, .int .u64 0]], []⟩ 8 (by kernel_rfl) (by kernel_rfl) (by kernel_rfl) (by kernel_rfl)) ?_
  intro W base args ds gs before hval0 hW _ _
  have hval : ∀ (j : Nat) t v, Try.f4.params[j]? = some t → args[j]? = some v → Value.okWide Try.prog W .any base t v := hval0
  have hW' := hW
  obtain ⟨p, q, hA0, hV, rfl, _, _⟩ := hW
  have hA : DataW.TrodAll enc Try.prog W 0 (fun _ => true) true Try.f4.params.toList args.toList ds p := hA0
  rw [Try.params4] at hA hval
  obtain ⟨v0, v1, v2, d0, d1, d2, p0, p1, p2, rfl, rfl, rfl, h0, h1, h2⟩ := trodAll_three hA
  obtain ⟨rfl, rfl⟩ := trodVars_none hV
  obtain ⟨x0, n0, q0, m0, rfl, rfl, s0⟩ := open_prefix (hval 0 36 v0 rfl rfl) h0
  obtain ⟨x1, n1, q1, m1, rfl, rfl, s1⟩ := open_prefix (hval 1 36 v1 rfl rfl) h1
  obtain ⟨x2, q2, rfl, rfl, s2⟩ := open_addr (hval 2 24 v2 rfl rfl) h2
  clear hA0 hval0
  simp only [List.append_nil] at hW'
  refine (prefixes_any q0 q1 q2 n0 n1 W).mono fun e W' ⟨he, hg⟩ => ?_
  subst he
  exact ⟨_, rfl, post_below (pa := []) (pv := []) hW' (fun _ _ _ => trodAll_mk1 (shut_bool Try.underlying4 true)) (fun sp _ => trodAll_mk3 (s0 W' 0 sp true) (s1 W' 0 sp true) (s2 W' 0 sp true)) (fun _ _ => rfl) rfl hg⟩

theorem addrPrefixes_holds : Rows.AddrPrefixesSaid :=
  OpenClaim.holds_of_wide 4 Try.f4 rfl rfl rfl rfl rfl rfl rfl ⟨rfl, rfl, rfl, rfl, rfl⟩ rfl rfl rfl rfl rfl (by kernel_rfl) Try.func4 (by kernel_rfl)
    (of_decide_eq_true (by kernel_rfl)) (by unfold Func.isWrapper; first | (rw [if_pos (by decide +kernel)]; kernel_rfl) | (rw [if_neg (by decide +kernel)]; exact ⟨rfl, rfl⟩))
    (fun os started H enc _ => addrPrefixes_lifted os started H enc)
end Go.Proofs.Ytlbconflbaohfaa
