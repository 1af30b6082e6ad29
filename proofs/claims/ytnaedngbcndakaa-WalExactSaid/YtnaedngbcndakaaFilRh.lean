/-
  The contract of the document's own Append. Conditions: a string is no longer than an int, an int is one of 64 bits; fewer than 2^62 operations have been answered OK.
-/
import Derived.Test.YtnaedngbcndakaaFilRg
import Derived.Deep.Cut
namespace Go.Proofs.Ytnaedngbcndakaa
open Go.RowKit Go.Maps

variable {w w' w1 w2 w3 : World} {t : Nat} {v : Value} {O : Nat → Prop} {s s' : Dk} {l : List Fl}
theorem IsRef.outw {Q : Nat → Prop} (h : IsRef w' t Q s) (h1 : ∀ i, Q i → O i ∨ w.heap.size ≤ i) (hO : ∀ i, O i → i < w.heap.size) (hs : w.heap.size ≤ w'.heap.size) : IsRef w' t (Gr O w w') s :=
  h.wider (fun i hi => (h1 i hi).imp id (fun e => ⟨e, h.lt i hi⟩)) (gr_lt hO hs)
theorem gr_old {Q : Nat → Prop} (hs : w.heap.size ≤ w1.heap.size) (h1 : ∀ i, Q i → O i ∨ w.heap.size ≤ i) {i : Nat} (h : Gr Q w1 w2 i) : O i ∨ w.heap.size ≤ i := by
  rcases h with h | h
  · exact h1 i h
  · exact Or.inr (Nat.le_trans hs h.1)
theorem rappend_nil (x data : Nm) (w : World) : Calls Try.prog 28 #[.pointer none, St x, St data] w (Same (.int .i64 2) w) := by
  go_enter Try.func28, Try.ntmps28
  go_wp2_with (go_at_call 55; refine (rcheck_nil _ _).mono ?_; rintro e w2 ⟨rfl, rfl⟩)
  go_ret
  exact ⟨rfl, rfl⟩
set_option maxRecDepth 100000 in
set_option maxHeartbeats 2000000 in
theorem rappend_any (h : IsRef w t O s) (hst : s.steps < 4611686018427387904) {x data : Nm} (hx : x.length ≤ maxLen) : Calls Try.prog 28 #[Pt t, St x, St data] w (ActsR w t O (.int .i64 (appendD s x data).1) (appendD s x data).2) := by
  obtain ⟨v, h⟩ := h
  have H := hide h
  have bad : ∀ c, checkI s [x] = c → (c == 0) = false → appendD s x data = (c, s) → Calls Try.prog 28 #[Pt t, St x, St data] w (ActsR w t O (.int .i64 (appendD s x data).1) (appendD s x data).2) := fun c h1 h2 h3 => by
    rw [h3]
    have C := rcheck_any h hx
    rw [h1] at C
    have C := hide C
    have h4 : ¬ c = 0 := by simpa using h2
    clear h h1 h2 h3 hx hst
    go_enter Try.func28, Try.ntmps28
    go_wp2_with (go_at_call 55; refine C.out.mono ?_; rintro e w2 ⟨rfl, rfl⟩)
    go_ret
    exact ⟨rfl, Fr.refl _ _, IsRef.acts ⟨v, H.out⟩ (Fr.refl _ _) ⟨v, H.out⟩⟩
  rcases chk1 s x with ⟨h1, h2⟩ | ⟨h1, h2, h3⟩ | ⟨h1, h2, h3⟩
  · exact bad 60 h2 rfl (by unfold appendD; rw [h1]; rfl)
  · exact bad 61 h3 rfl (by unfold appendD; rw [h1, h2]; rfl)
  clear bad
  have C0 := rcheck_any h hx
  rw [h3] at C0
  have C := hide C0
  have P0 := place_any h x
  clear C0
  have HN := hide (nameB_len h2)
  cases hf : find s.fs x with
  | none =>
    rw [pl_none hf] at P0
    have P := hide P0
    have hn : s.fs.length ≤ 16 := h.ok.len
    obtain ⟨c0, _⟩ := h.cs
    obtain ⟨p, cap0, hv⟩ := h.row.form
    rw [hv] at c0
    by_cases hfull : 16 ≤ s.fs.length ∨ 1048576 < data.length
    · have E : appendD s x data = (63, s) := by unfold appendD; rw [h1, h2, hf]; simp only [Bool.false_eq_true, if_false, if_true]; rw [if_pos hfull]
      rw [E]
      clear P0 h h1 h2 h3 hx hf E hst hv
      rcases Nat.lt_or_ge s.fs.length 16 with h16 | h16
      · have h17 : ¬ 16 ≤ (s.fs.length : Int) := by omega
        have h18 : 1048576 < (data.length : Int) := by omega
        clear hfull
        go_enter Try.func28, Try.ntmps28
        go_wp2_with (first
          | (go_at_call 55; refine C.out.mono ?_; rintro e w2 ⟨rfl, rfl⟩)
          | (go_at_call 56; refine P.out.mono ?_; rintro e w2 ⟨rfl, rfl⟩))
        go_ret
        exact ⟨rfl, Fr.refl _ _, IsRef.acts ⟨v, H.out⟩ (Fr.refl _ _) ⟨v, H.out⟩⟩
      · have h17 : 16 ≤ (s.fs.length : Int) := by omega
        clear hfull
        go_enter Try.func28, Try.ntmps28
        go_wp2_with (first
          | (go_at_call 55; refine C.out.mono ?_; rintro e w2 ⟨rfl, rfl⟩)
          | (go_at_call 56; refine P.out.mono ?_; rintro e w2 ⟨rfl, rfl⟩))
        go_ret
        exact ⟨rfl, Fr.refl _ _, IsRef.acts ⟨v, H.out⟩ (Fr.refl _ _) ⟨v, H.out⟩⟩
    have h17 : ¬ 16 ≤ (s.fs.length : Int) := by omega
    have h18 : ¬ 1048576 < (data.length : Int) := by omega
    have PU := put_any h (f := ⟨x, [], 0⟩) ⟨Nat.le_refl _, Nat.zero_le _, HN.out⟩ hf (by omega)
    obtain ⟨s3, hs3⟩ : ∃ s3 : Dk, s3 = { s with fs := putF ⟨x, [], 0⟩ s.fs } := ⟨_, rfl⟩
    rw [← hs3] at PU
    have PU := hide PU
    have hf3 : find s3.fs x = some ⟨x, [], 0⟩ := by rw [hs3]; show find (putF _ _) x = _; rw [find_put h.ok.srt, if_pos rfl]
    obtain ⟨f3, he3⟩ : ∃ f3 : Fl, f3 = ⟨x, [], 0⟩ := ⟨_, rfl⟩
    rw [← he3] at hf3
    have hfn3 : f3.name = x := by rw [he3]
    have hf3l : f3.data.length + data.length ≤ 1048576 := by rw [he3]; show 0 + data.length ≤ _; omega
    have hfo3 : f3.safe ≤ f3.data.length := by rw [he3]; exact Nat.le_refl _
    have hfind : (find s3.fs x).isSome = true := by rw [hf3]; rfl
    have HST := hide (show s3.steps < 4611686018427387904 by rw [hs3]; exact hst)
    have HE0 := hide (show appendD s x data = goD { s3 with fs := putF ⟨x, f3.data ++ data, f3.safe⟩ s3.fs } { s3 with fs := putF ⟨x, f3.data ++ data, f3.safe⟩ s3.fs } by
      have E : appendD s x data = goD { s with fs := putF ⟨x, data, 0⟩ s.fs } { s with fs := putF ⟨x, data, 0⟩ s.fs } := by unfold appendD; rw [h1, h2, hf]; simp only [Bool.false_eq_true, if_false, if_true]; rw [if_neg hfull]
      rw [E, he3, hs3]
      show _ = goD { s with fs := putF ⟨x, [] ++ data, 0⟩ (putF ⟨x, [], 0⟩ s.fs) } { s with fs := putF ⟨x, [] ++ data, 0⟩ (putF ⟨x, [], 0⟩ s.fs) }
      rw [put_put (f := ⟨x, [] ++ data, 0⟩) (g := ⟨x, [], 0⟩) h.ok.srt rfl]
      rfl)
    obtain ⟨k, hk, hkl, hkf⟩ := pl_some hf3
    clear P0 h h1 h3 hx hf hv hs3 he3 hfull hf3
    go_enter Try.func28, Try.ntmps28
    go_wp2_with fail
    refine C.out.mono ?_
    rintro e w2 ⟨rfl, rfl⟩
    go_wp2_with fail
    refine P.out.mono ?_
    rintro e w2 ⟨rfl, rfl⟩
    go_wp2_with fail
    refine PU.out.mono ?_
    rintro e w3 ⟨rfl, F3, v3, R3⟩
    clear c0
    obtain ⟨O3, hO3⟩ : ∃ O3, O3 = Gr O w w3 := ⟨_, rfl⟩
    rw [← hO3] at R3
    have O3O := hide (show ∀ i, O3 i → O i ∨ w.heap.size ≤ i from fun i e => by
      rw [hO3] at e
      rcases e with e | e
      · exact Or.inl e
      · exact Or.inr e.1)
    clear hO3
    have PL := place_any R3 x
    rw [hk] at PL
    go_wp2_with fail
    refine PL.mono ?_
    rintro e w2 ⟨rfl, rfl⟩
    clear PL hk
    obtain ⟨g, cap, rfl, y0, y1, y2, y3, y4⟩ := R3.row.at hkl
    clear y0 y1 y2 y3 y4
    have hkn : (k : Int) < (s3.fs.length : Int) := by omega
    have hn3 : s3.fs.length ≤ 16 := R3.ok.len
    obtain ⟨c0, _⟩ := R3.cs
    obtain ⟨x0, x1, x2, x3⟩ := R3.row.c hkl
    rw [hkf] at x1
    obtain ⟨q, hq⟩ : ∃ q, q = f3.data ++ data := ⟨_, rfl⟩
    have J := bytes_app f3.data data
    rw [← hq] at J
    have hql : q.length = f3.data.length + data.length := by rw [hq, List.length_append]
    have hsz : ¬ 9223372036854775807 < f3.data.length + data.length := by omega
    have hql2 : (f3.data.length : Int) + (data.length : Int) ≤ 1048576 := by omega
    have HKL := hide hkl
    have HKF := hide (show s3.fs[k]'(HKL.out) = f3 from hkf)
    have ST := hide (show s3.fs.set k ⟨f3.name, q, f3.safe⟩ = putF ⟨x, q, f3.safe⟩ s3.fs by
      rw [hfn3]
      exact set_put R3.ok.srt hkl (by rw [hkf]; exact hfn3))
    have OK := hide (R3.ok.put (f := ⟨x, q, f3.safe⟩) ⟨by show f3.safe ≤ q.length; omega, by show q.length ≤ _; omega, nameB_len h2⟩ (Or.inl hfind))
    have HE := hide (show appendD s x data = goD { s3 with fs := putF ⟨x, q, f3.safe⟩ s3.fs } { s3 with fs := putF ⟨x, q, f3.safe⟩ s3.fs } by rw [hq]; exact HE0.out)
    have R5 := hide (R3.no (Fr.drew w3))
    have F5 := hide (F3.andNo (Fr.drew w3))
    clear x0 x2 x3 R3 F3 hkl hkf hq h2 hfind hfn3 HE0 hf3l hfo3
    go_wp2
    go_still_tail 17, (by kernel_rfl)
    change wpList _ _ _ _ _ w3.drew
    generalize w3.drew = w5 at *
    clear x1 c0
    have HR5 := hide (show FRow w5 (.slice (some ⟨g, 0, none⟩) s3.fs.length cap) s3.fs from R5.out.row)
    obtain ⟨_, _, _, x3⟩ := HR5.out.c HKL.out
    have q0 := x3 (k * 3 + 1)
    clear x3
    have R6 := HR5.out.put HKL.out (i := 1) (by omega) (f' := ⟨f3.name, q, f3.safe⟩) (u := St q) (by rw [HKF.out]; rfl)
    rw [ST.out] at R6
    have Fst : Fr (fun i => some i = (Value.slice (some ⟨g, 0, none⟩) s3.fs.length cap).ownBlock) w5 (w5.setCell ⟨g, k * 3 + 1, none⟩ (St q)) := (Fr.set w5 ⟨g, k * 3 + 1, none⟩ _).mono (fun i _ e => by have e : i = g := e; rw [e]; rfl)
    have R7 := hide (R5.out.row1 Fst (by simp) R6 OK.out)
    have F7 := hide (F5.out.trans (R5.out.rowO Fst) (fun i hi e => (O3O.out i e).resolve_right (by omega)))
    clear R6 Fst
    go_wp2_with fail
    generalize w5.setCell ⟨g, k * 3 + 1, none⟩ (St q) = w6 at *
    clear q0
    by_cases h0 : s3.left = 0
    · refine (power_off R7.out h0).mono ?_
      rintro e w7 ⟨rfl, F8, R8⟩
      have F9 := hide (F7.out.trans F8 (fun i hi e => (O3O.out i e).resolve_right (by omega)))
      have R9 := hide (R8.outw (fun i e => gr_old (Nat.le_trans F7.out.size (Nat.le_refl _)) O3O.out e) H.out.lt F9.out.size)
      have E2 := hide (show appendD s x data = (60, offD { s3 with fs := putF ⟨x, q, f3.safe⟩ s3.fs } s3.keep) by rw [HE.out]; unfold goD; rw [if_pos h0])
      clear F8 R8 h0
      go_wp2
      go_ret
      exact ⟨by rw [E2.out]; rfl, F9.out, by rw [E2.out]; exact R9.out⟩
    · refine (power_go R7.out (by simpa using h0) HST.out).mono ?_
      rintro e w7 ⟨rfl, F8, R8⟩
      have F9 := hide (F7.out.trans (F8.mono (S2 := O3) (fun i _ e => by rw [e]; exact R7.out.own.1)) (fun i hi e => (O3O.out i e).resolve_right (by omega)))
      have R9 := hide (IsRef.outw ⟨_, R8⟩ (fun i e => O3O.out i e) H.out.lt F9.out.size)
      have E2 := hide (show appendD s x data = (0, tick { s3 with fs := putF ⟨x, q, f3.safe⟩ s3.fs }) by rw [HE.out]; unfold goD; rw [if_neg h0])
      clear F8 R8 h0
      go_wp2
      go_ret
      exact ⟨by rw [E2.out]; rfl, F9.out, by rw [E2.out]; exact R9.out⟩
  | some f3 =>
    obtain ⟨k, hk, hkl, hkf⟩ := pl_some hf
    rw [hk] at P0
    have P := hide P0
    clear P0 hk
    have hfn3 : f3.name = x := find_name hf
    have hfo3 : f3.safe ≤ f3.data.length := (h.ok.ok f3 (find_mem hf)).1
    have hfl3 : f3.data.length ≤ 1048576 := (h.ok.ok f3 (find_mem hf)).2.1
    have hfind : (find s.fs x).isSome = true := by rw [hf]; rfl
    obtain ⟨g, cap, hv, y0, y1, y2, y3, y4⟩ := h.row.at hkl
    obtain ⟨c0, _⟩ := h.cs
    rw [hv] at c0
    rw [hkf] at y1
    clear y0 y2 y3 y4
    have hn : s.fs.length ≤ 16 := h.ok.len
    have hkn0 : (k : Int) < (s.fs.length : Int) := by omega
    by_cases hfull : 1048576 < f3.data.length + data.length
    · have E : appendD s x data = (63, s) := by unfold appendD; rw [h1, h2, hf]; simp only [Bool.false_eq_true, if_false, if_true]; rw [if_pos hfull]
      rw [E]
      have h17 : 1048576 - (f3.data.length : Int) < (data.length : Int) := by omega
      clear h h1 h2 h3 hx hf E hst hv hkf hfull hfind hfo3 hfn3
      go_enter Try.func28, Try.ntmps28
      go_wp2_with (first
        | (go_at_call 55; refine C.out.mono ?_; rintro e w2 ⟨rfl, rfl⟩)
        | (go_at_call 56; refine P.out.mono ?_; rintro e w2 ⟨rfl, rfl⟩))
      go_ret
      exact ⟨rfl, Fr.refl _ _, IsRef.acts ⟨v, H.out⟩ (Fr.refl _ _) ⟨v, H.out⟩⟩
    have h17 : ¬ 1048576 - (f3.data.length : Int) < (data.length : Int) := by omega
    have hf3l : f3.data.length + data.length ≤ 1048576 := by omega
    have HST := hide hst
    have HE0 := hide (show appendD s x data = goD { s with fs := putF ⟨x, f3.data ++ data, f3.safe⟩ s.fs } { s with fs := putF ⟨x, f3.data ++ data, f3.safe⟩ s.fs } by
      unfold appendD; rw [h1, h2, hf]; simp only [Bool.false_eq_true, if_false, if_true]; rw [if_neg hfull])
    have R3 := h
    have F3 := Fr.refl O w
    have O3O := hide (show ∀ i, O i → O i ∨ w.heap.size ≤ i from fun i e => Or.inl e)
    clear h h1 h3 hx hf hv hfull
    go_enter Try.func28, Try.ntmps28
    go_wp2_with fail
    refine C.out.mono ?_
    rintro e w2 ⟨rfl, rfl⟩
    go_wp2_with fail
    refine P.out.mono ?_
    rintro e w2 ⟨rfl, rfl⟩
    go_upto_region 10 with fail
    clear c0 y1
    obtain ⟨g, cap, rfl, y0, y1, y2, y3, y4⟩ := R3.row.at hkl
    clear y0 y1 y2 y3 y4
    have hkn : (k : Int) < (s.fs.length : Int) := by omega
    have hn3 : s.fs.length ≤ 16 := R3.ok.len
    obtain ⟨c0, _⟩ := R3.cs
    obtain ⟨x0, x1, x2, x3⟩ := R3.row.c hkl
    rw [hkf] at x1
    obtain ⟨q, hq⟩ : ∃ q, q = f3.data ++ data := ⟨_, rfl⟩
    have J := bytes_app f3.data data
    rw [← hq] at J
    have hql : q.length = f3.data.length + data.length := by rw [hq, List.length_append]
    have hsz : ¬ 9223372036854775807 < f3.data.length + data.length := by omega
    have hql2 : (f3.data.length : Int) + (data.length : Int) ≤ 1048576 := by omega
    have HKL := hide hkl
    have HKF := hide (show s.fs[k]'(HKL.out) = f3 from hkf)
    have ST := hide (show s.fs.set k ⟨f3.name, q, f3.safe⟩ = putF ⟨x, q, f3.safe⟩ s.fs by
      rw [hfn3]
      exact set_put R3.ok.srt hkl (by rw [hkf]; exact hfn3))
    have OK := hide (R3.ok.put (f := ⟨x, q, f3.safe⟩) ⟨by show f3.safe ≤ q.length; omega, by show q.length ≤ _; omega, nameB_len h2⟩ (Or.inl hfind))
    have HE := hide (show appendD s x data = goD { s with fs := putF ⟨x, q, f3.safe⟩ s.fs } { s with fs := putF ⟨x, q, f3.safe⟩ s.fs } by rw [hq]; exact HE0.out)
    have R5 := hide (R3.no (Fr.drew w))
    have F5 := hide (F3.andNo (Fr.drew w))
    clear x0 x2 x3 R3 F3 hkl hkf hq h2 hfind hfn3 HE0 hf3l hfo3
    go_wp2
    go_still_tail 17, (by kernel_rfl)
    change wpList _ _ _ _ _ w.drew
    generalize w.drew = w5 at *
    clear x1 c0
    have HR5 := hide (show FRow w5 (.slice (some ⟨g, 0, none⟩) s.fs.length cap) s.fs from R5.out.row)
    obtain ⟨_, _, _, x3⟩ := HR5.out.c HKL.out
    have q0 := x3 (k * 3 + 1)
    clear x3
    have R6 := HR5.out.put HKL.out (i := 1) (by omega) (f' := ⟨f3.name, q, f3.safe⟩) (u := St q) (by rw [HKF.out]; rfl)
    rw [ST.out] at R6
    have Fst : Fr (fun i => some i = (Value.slice (some ⟨g, 0, none⟩) s.fs.length cap).ownBlock) w5 (w5.setCell ⟨g, k * 3 + 1, none⟩ (St q)) := (Fr.set w5 ⟨g, k * 3 + 1, none⟩ _).mono (fun i _ e => by have e : i = g := e; rw [e]; rfl)
    have R7 := hide (R5.out.row1 Fst (by simp) R6 OK.out)
    have F7 := hide (F5.out.trans (R5.out.rowO Fst) (fun i hi e => (O3O.out i e).resolve_right (by omega)))
    clear R6 Fst
    go_wp2_with fail
    generalize w5.setCell ⟨g, k * 3 + 1, none⟩ (St q) = w6 at *
    clear q0
    by_cases h0 : s.left = 0
    · refine (power_off R7.out h0).mono ?_
      rintro e w7 ⟨rfl, F8, R8⟩
      have F9 := hide (F7.out.trans F8 (fun i hi e => (O3O.out i e).resolve_right (by omega)))
      have R9 := hide (R8.outw (fun i e => gr_old (Nat.le_trans F7.out.size (Nat.le_refl _)) O3O.out e) H.out.lt F9.out.size)
      have E2 := hide (show appendD s x data = (60, offD { s with fs := putF ⟨x, q, f3.safe⟩ s.fs } s.keep) by rw [HE.out]; unfold goD; rw [if_pos h0])
      clear F8 R8 h0
      go_wp2
      go_ret
      exact ⟨by rw [E2.out]; rfl, F9.out, by rw [E2.out]; exact R9.out⟩
    · refine (power_go R7.out (by simpa using h0) HST.out).mono ?_
      rintro e w7 ⟨rfl, F8, R8⟩
      have F9 := hide (F7.out.trans (F8.mono (S2 := O) (fun i _ e => by rw [e]; exact R7.out.own.1)) (fun i hi e => (O3O.out i e).resolve_right (by omega)))
      have R9 := hide (IsRef.outw ⟨_, R8⟩ (fun i e => O3O.out i e) H.out.lt F9.out.size)
      have E2 := hide (show appendD s x data = (0, tick { s with fs := putF ⟨x, q, f3.safe⟩ s.fs }) by rw [HE.out]; unfold goD; rw [if_neg h0])
      clear F8 R8 h0
      go_wp2
      go_ret
      exact ⟨by rw [E2.out]; rfl, F9.out, by rw [E2.out]; exact R9.out⟩
end Go.Proofs.Ytnaedngbcndakaa
