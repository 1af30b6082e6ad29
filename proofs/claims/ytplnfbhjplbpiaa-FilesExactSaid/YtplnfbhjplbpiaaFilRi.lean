/-
  The contract of the document's own Rename. Conditions: a string is no longer than an int, an int is one of 64 bits; fewer than 2^62 operations have been answered OK.
-/
import Derived.Test.YtplnfbhjplbpiaaFilRh
namespace Go.Proofs.Ytplnfbhjplbpiaa
open Go.RowKit Go.Maps

variable {w w' w1 w2 w3 : World} {t : Nat} {v : Value} {O : Nat → Prop} {s s' : Dk} {l : List Fl}
theorem rrename_nil (x y : Nm) (w : World) : Calls Try.prog 35 #[.pointer none, St x, St y] w (Same (.int .i64 2) w) := by
  go_enter Try.func35, Try.ntmps35
  go_wp2_with (go_at_call 43; refine (rcheck_nil _ _).mono ?_; rintro e w2 ⟨rfl, rfl⟩)
  go_ret
  exact ⟨rfl, rfl⟩
theorem put_del {f : Fl} {l : List Fl} (h : Srt l) : putF f (delF f.name l) = putF f l := by
  refine srt_ext (srt_put (srt_del h)) (srt_put h) (fun z => ?_)
  rw [find_put (srt_del h), find_del, find_put h]
  by_cases e : f.name = z
  · rw [if_pos e, if_pos e]
  · rw [if_neg e, if_neg e, if_neg (fun e2 => e e2.symm)]
set_option maxRecDepth 100000 in
set_option maxHeartbeats 2000000 in
theorem rrename_any (h : IsRef w t O s) (hst : s.steps < 4611686018427387904) {x y : Nm} (hx : x.length ≤ maxLen) (hy : y.length ≤ maxLen) : Calls Try.prog 35 #[Pt t, St x, St y] w (ActsR w t O (.int .i64 (renameD s x y).1) (renameD s x y).2) := by
  obtain ⟨v, h⟩ := h
  have H := hide h
  have bad : ∀ c, checkI s [x] = c → (c == 0) = false → renameD s x y = (c, s) → Calls Try.prog 35 #[Pt t, St x, St y] w (ActsR w t O (.int .i64 (renameD s x y).1) (renameD s x y).2) := fun c h1 h2 h3 => by
    rw [h3]
    have C := rcheck_any h hx
    rw [h1] at C
    have C := hide C
    have h4 : ¬ c = 0 := by simpa using h2
    clear h h1 h2 h3 hx hy hst
    go_enter Try.func35, Try.ntmps35
    go_wp2_with (go_at_call 43; refine C.out.mono ?_; rintro e w2 ⟨rfl, rfl⟩)
    go_ret
    exact ⟨rfl, Fr.refl _ _, IsRef.acts ⟨v, H.out⟩ (Fr.refl _ _) ⟨v, H.out⟩⟩
  rcases chk1 s x with ⟨h1, h2⟩ | ⟨h1, h2, h3⟩ | ⟨h1, h2, h3⟩
  · exact bad 60 h2 rfl (by unfold renameD; rw [h1]; rfl)
  · exact bad 61 h3 rfl (by unfold renameD; rw [h1, h2]; rfl)
  clear bad
  have C0 := rcheck_any h hx
  rw [h3] at C0
  have C := hide C0
  have P0 := place_any h x
  clear C0
  have CY0 := rcheck_any h hy
  have HX := hide h2
  rcases chk1 s y with ⟨g1, g2⟩ | ⟨g1, g2, g3⟩ | ⟨g1, g2, g3⟩
  · rw [h1] at g1
    cases g1
  · rw [g3] at CY0
    have CY := hide CY0
    have E : renameD s x y = (61, s) := by unfold renameD; rw [h1, h2, g2]; rfl
    rw [E]
    clear P0 CY0 h h1 h2 h3 hx hy E hst g1 g2 g3
    go_enter Try.func35, Try.ntmps35
    go_wp2_with fail
    refine C.out.mono ?_
    rintro e w2 ⟨rfl, rfl⟩
    go_wp2_with fail
    refine CY.out.mono ?_
    rintro e w2 ⟨rfl, rfl⟩
    go_wp2
    go_ret
    exact ⟨rfl, Fr.refl _ _, IsRef.acts ⟨v, H.out⟩ (Fr.refl _ _) ⟨v, H.out⟩⟩
  rw [g3] at CY0
  have CY := hide CY0
  have NY := hide (nameB_len g2)
  clear CY0 g1 g3 hy
  cases hf : find s.fs x with
  | none =>
    have E : renameD s x y = (62, s) := by unfold renameD; rw [h1, h2, g2, hf]; rfl
    rw [pl_none hf] at P0
    have P := hide P0
    rw [E]
    clear P0 h h1 h2 h3 hx hf E hst g2
    go_enter Try.func35, Try.ntmps35
    go_wp2_with fail
    refine C.out.mono ?_
    rintro e w2 ⟨rfl, rfl⟩
    go_wp2_with fail
    refine CY.out.mono ?_
    rintro e w2 ⟨rfl, rfl⟩
    go_wp2_with fail
    refine P.out.mono ?_
    rintro e w2 ⟨rfl, rfl⟩
    go_wp2
    go_ret
    exact ⟨rfl, Fr.refl _ _, IsRef.acts ⟨v, H.out⟩ (Fr.refl _ _) ⟨v, H.out⟩⟩
  | some f =>
  obtain ⟨k, hk, hkl, hkf⟩ := pl_some hf
  rw [hk] at P0
  have P := hide P0
  clear P0 hk
  have E0 : renameD s x y = goD s { s with fs := putF ⟨y, f.data, f.safe⟩ (delF x s.fs) } := by unfold renameD; rw [h1, h2, g2, hf]; rfl
  by_cases h0 : s.left = 0
  · have E : renameD s x y = (60, offD s s.keep) := by rw [E0]; unfold goD; rw [if_pos h0]
    rw [E]
    have G := hide (power_off h h0)
    clear h h1 h2 h3 hx hf E hst h0 hkf E0 g2
    go_enter Try.func35, Try.ntmps35
    go_wp2_with fail
    refine C.out.mono ?_
    rintro e w2 ⟨rfl, rfl⟩
    go_wp2_with fail
    refine CY.out.mono ?_
    rintro e w2 ⟨rfl, rfl⟩
    go_wp2_with fail
    refine P.out.mono ?_
    rintro e w2 ⟨rfl, rfl⟩
    go_wp2_with fail
    refine G.out.mono ?_
    intro e w3 K
    obtain rfl := K.1
    go_wp2
    go_ret
    exact ⟨rfl, K.2⟩
  have G := hide (power_go h (by simpa using h0) hst)
  have E : renameD s x y = (0, tick { s with fs := putF ⟨y, f.data, f.safe⟩ (delF x s.fs) }) := by rw [E0]; unfold goD; rw [if_neg h0]
  rw [E]
  have hfn := find_name hf
  have SR := hide h.ok.srt
  by_cases hxy : x = y
  · subst hxy
    have EP := hide (show putF ⟨x, f.data, f.safe⟩ (delF x s.fs) = s.fs by
      have e : (⟨x, f.data, f.safe⟩ : Fl) = f := by rw [← hfn]
      rw [e]
      rw [← hfn] at hf ⊢
      exact put_del_self h.ok.srt hf)
    clear h h1 h2 h3 hx hf E hst h0 hkf E0 g2 hfn
    go_enter Try.func35, Try.ntmps35
    go_wp2_with fail
    refine C.out.mono ?_
    rintro e w2 ⟨rfl, rfl⟩
    go_wp2_with fail
    refine CY.out.mono ?_
    rintro e w2 ⟨rfl, rfl⟩
    go_wp2_with fail
    refine P.out.mono ?_
    rintro e w2 ⟨rfl, rfl⟩
    go_wp2_with fail
    refine G.out.mono ?_
    rintro e w3 ⟨rfl, F3, R3⟩
    have F4 := hide (F3.mono (S2 := O) (fun i _ e => by rw [e]; exact H.out.own.1))
    have R4 := hide (IsRef.outw (O := O) (w := w) ⟨_, R3⟩ (fun i e => Or.inl e) H.out.lt F3.size)
    clear F3 R3
    go_wp2
    go_ret
    exact ⟨rfl, F4.out, by rw [EP.out]; exact R4.out⟩
  have hxb : (x == y) = false := by simpa using hxy
  have ER := hide (show s.fs.eraseIdx k = delF x s.fs from erase_del (x := x) h.ok.srt hkl ((congrArg Fl.name hkf).trans hfn))
  have OKD := hide ((h.ok.del x).tick)
  have HKL := hide hkl
  have HKF := hide (show s.fs[k]'(HKL.out) = f from hkf)
  have FOK := hide (show FlOk ⟨y, f.data, f.safe⟩ from ⟨(h.ok.ok f (find_mem hf)).1, (h.ok.ok f (find_mem hf)).2.1, NY.out⟩)
  have HD := hide (show (delF x s.fs).length < 16 by have := len_del_lt (x := x) (l := s.fs) (by rw [hf]; rfl); have := h.ok.len; omega)
  have NE := hide hxy
  clear h h1 h2 h3 hx hf E hst h0 hkf E0 g2 hfn hkl hxy
  go_enter Try.func35, Try.ntmps35
  go_wp2_with fail
  refine C.out.mono ?_
  rintro e w2 ⟨rfl, rfl⟩
  go_wp2_with fail
  refine CY.out.mono ?_
  rintro e w2 ⟨rfl, rfl⟩
  go_wp2_with fail
  refine P.out.mono ?_
  rintro e w2 ⟨rfl, rfl⟩
  go_wp2_with fail
  refine G.out.mono ?_
  rintro e w3 ⟨rfl, F3, R3⟩
  have TK := hide (take_any R3 (a := k) HKL.out (by rw [show (tick s).fs = s.fs from rfl, ER.out]; exact OKD.out))
  have HF3 := hide (F3.mono (S2 := O) (fun i _ e => by rw [e]; exact H.out.own.1))
  clear R3 F3
  go_wp2_with fail
  refine TK.out.mono ?_
  rintro e w4 ⟨rfl, F4, R4⟩
  have R4 : IsRef w4 t (Gr O w3 w4) (tick { s with fs := delF x s.fs }) := by rw [← ER.out]; exact R4
  have HF4 := hide (HF3.out.trans F4 (fun i _ e => e))
  have R4 := hide (R4.outw (O := O) (w := w) (fun i e => gr_old HF3.out.size (fun i e => Or.inl e) e) H.out.lt HF4.out.size)
  rw [show (tick s).fs[k]'(HKL.out) = f from HKF.out]
  clear F4
  go_upto_region 15 with fail
  have HWB := hide (show w.heap.size ≤ w4.heap.size from HF4.out.size)
  have FB : Fr No w4 (w4.alloc (.cells #[St f.name, St f.data, .int .i64 (f.safe : Nat)] 65)) := Fr.alloc _ _
  have B5 := alloc_new w4 (.cells #[St f.name, St f.data, .int .i64 (f.safe : Nat)] 65)
  have R5 := hide (R4.out.no FB)
  have F5 := hide (HF4.out.andNo FB)
  have OXo := hide (show ∀ i, Gr O w w4 i → O i ∨ w.heap.size ≤ i from fun i e => e.imp id (fun e => e.1))
  have OXb := hide (show ¬ Gr O w w4 w4.heap.size from fun e => by have := R4.out.lt _ e; omega)
  generalize hw5 : w4.alloc (.cells #[St f.name, St f.data, .int .i64 (f.safe : Nat)] 65) = w5 at *
  generalize hO5 : Gr O w w4 = O5 at *
  clear R4 HF4 FB hw5 hO5
  generalize w4.heap.size = b at *
  have DL := hide (show (tick { s with fs := delF x s.fs }).fs.length < 16 from HD.out)
  have DS := hide (show Srt (delF x s.fs) from srt_del SR.out)
  obtain ⟨v5, R5v⟩ := R5.out
  have P5 := place_any R5v y
  rw [show (tick { s with fs := delF x s.fs }).fs = delF x s.fs from rfl] at P5
  cases hf2 : find (delF x s.fs) y with
  | none =>
    rw [pl_none hf2] at P5
    have DXf := hide (show find (tick { s with fs := delF x s.fs }).fs y = none from hf2)
    have DXl := DL
    have EQ := hide (show tick { s with fs := putF ⟨y, f.data, f.safe⟩ (delF x s.fs) } = { (tick { s with fs := delF x s.fs }) with fs := putF ⟨y, f.data, f.safe⟩ (tick { s with fs := delF x s.fs }).fs } from rfl)
    clear hf2 R5v
    go_wp2_with fail
    refine P5.mono ?_
    rintro e w2 ⟨rfl, rfl⟩
    clear P5
    go_upto_region 18 with fail
    have f0 := free_at B5 0
    have d0 := cell_at B5 0
    have d1 := cell_at B5 1
    have d2 := cell_at B5 2
    simp at d0 d1 d2
    have BF := set_block B5 0 (St y)
    have e0 := cell_at BF 0
    have e1 := cell_at BF 1
    have e2 := cell_at BF 2
    simp at e0 e1 e2
    have Fst := Fr.set w5 ⟨b, 0, none⟩ (St y)
    have R6 := hide (R5.out.fr Fst (fun i hi e => by have e : i = b := e; rw [e] at hi; exact OXb.out hi))
    have F6 := hide (F5.out.trans Fst (S := O) (fun i hi e => by have e : i = b := e; have := HWB.out; omega))
    clear B5 BF Fst R5 F5
    go_wp2_with fail
    obtain ⟨v6, R7⟩ := R6.out
    refine (put_any R7 (f := ⟨y, f.data, f.safe⟩) FOK.out DXf.out DXl.out).mono ?_
    rintro e w7 ⟨rfl, F7, R8⟩
    have F8 := hide (F6.out.trans F7 (fun i hi e => (OXo.out i e).resolve_right (by omega)))
    have R9 := hide (R8.outw (O := O) (w := w) (fun i e => gr_old F6.out.size OXo.out e) H.out.lt F8.out.size)
    clear F7 R8 R7
    go_wp2
    go_ret
    exact ⟨rfl, F8.out, by rw [EQ.out]; exact R9.out⟩
  | some f2 =>
    obtain ⟨k2, hk2, hkl2, hkf2⟩ := pl_some hf2
    rw [hk2] at P5
    have ER2 := hide (show (delF x s.fs).eraseIdx k2 = delF y (delF x s.fs) from erase_del (x := y) DS.out hkl2 ((congrArg Fl.name hkf2).trans (find_name hf2)))
    have OK2 := hide (OKD.out.del y)
    have DXf := hide (show find (delF y (delF x s.fs)) y = none by rw [find_del]; simp)
    have DXl := hide (show (delF y (delF x s.fs)).length < 16 from Nat.lt_of_le_of_lt len_del HD.out)
    have EQ := hide (show tick { s with fs := putF ⟨y, f.data, f.safe⟩ (delF x s.fs) } = { (tick { s with fs := delF x s.fs }) with fs := putF ⟨y, f.data, f.safe⟩ (delF y (delF x s.fs)) } by
      rw [show putF ⟨y, f.data, f.safe⟩ (delF y (delF x s.fs)) = putF ⟨y, f.data, f.safe⟩ (delF x s.fs) from put_del (f := ⟨y, f.data, f.safe⟩) DS.out]
      rfl)
    have TK2 := hide (take_any R5v (a := k2) hkl2 (by rw [show (tick { s with fs := delF x s.fs }).fs = delF x s.fs from rfl, ER2.out]; exact OK2.out))
    have hk20 : 0 ≤ (k2 : Int) := by omega
    have R5D := hide (show ∀ i, O5 i → i < w5.heap.size from R5.out.lt)
    clear hf2 R5v hk2 hkf2
    go_wp2_with fail
    refine P5.mono ?_
    rintro e w2 ⟨rfl, rfl⟩
    clear P5
    go_wp2_with fail
    refine TK2.out.mono ?_
    rintro e w6 ⟨rfl, F6, R6⟩
    have R6 : IsRef w6 t (Gr O5 w5 w6) { (tick { s with fs := delF x s.fs }) with fs := delF y (delF x s.fs) } := by rw [← ER2.out]; exact R6
    have F6b := hide (F5.out.trans F6 (fun i hi e => (OXo.out i e).resolve_right (by omega)))
    have B6 := F6.keep B5 OXb.out
    have OYb := hide (show ¬ Gr O5 w5 w6 b from fun e => by
      rcases e with e | e
      · exact OXb.out e
      · have := lt_of_block B5; omega)
    have OYo := hide (show ∀ i, Gr O5 w5 w6 i → O i ∨ w.heap.size ≤ i from fun i e => gr_old F5.out.size OXo.out e)
    have R6 := hide R6
    clear F6 B5
    go_upto_region 18 with fail
    have f0 := free_at B6 0
    have d0 := cell_at B6 0
    have d1 := cell_at B6 1
    have d2 := cell_at B6 2
    simp at d0 d1 d2
    have BF := set_block B6 0 (St y)
    have e0 := cell_at BF 0
    have e1 := cell_at BF 1
    have e2 := cell_at BF 2
    simp at e0 e1 e2
    have Fst := Fr.set w6 ⟨b, 0, none⟩ (St y)
    have R6c := hide (R6.out.fr Fst (fun i hi e => by have e : i = b := e; rw [e] at hi; exact OYb.out hi))
    have F6c := hide (F6b.out.trans Fst (S := O) (fun i hi e => by have e : i = b := e; have := HWB.out; omega))
    clear B6 BF Fst R6 F6b
    go_wp2_with fail
    obtain ⟨v6, R7⟩ := R6c.out
    refine (put_any R7 (f := ⟨y, f.data, f.safe⟩) FOK.out DXf.out DXl.out).mono ?_
    rintro e w7 ⟨rfl, F7, R8⟩
    have F8 := hide (F6c.out.trans F7 (fun i hi e => (OYo.out i e).resolve_right (by omega)))
    have R9 := hide (R8.outw (O := O) (w := w) (fun i e => gr_old F6c.out.size OYo.out e) H.out.lt F8.out.size)
    clear F7 R8 R7
    go_wp2
    go_ret
    exact ⟨rfl, F8.out, by rw [EQ.out]; exact R9.out⟩
end Go.Proofs.Ytplnfbhjplbpiaa
