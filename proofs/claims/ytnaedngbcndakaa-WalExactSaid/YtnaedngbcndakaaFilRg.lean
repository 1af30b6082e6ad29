/-
  The contracts of the document's own Sync, Cut, Delete. Conditions: a string is no longer than an int, an int is one of 64 bits; fewer than 2^62 operations have been answered OK.
-/
import Derived.Test.YtnaedngbcndakaaFilRf
namespace Go.Proofs.Ytnaedngbcndakaa
open Go.RowKit Go.Maps

variable {w w' w1 w2 w3 : World} {t : Nat} {v : Value} {O : Nat → Prop} {s s' : Dk} {l : List Fl}
theorem set_put : ∀ {l : List Fl} {k : Nat} {f : Fl}, Srt l → ∀ hk : k < l.length, l[k].name = f.name → l.set k f = putF f l
  | g :: r, 0, f, hs, hk, hn => by
    have hn : g.name = f.name := hn
    unfold putF
    rw [if_neg (fun e => nm_irr g.name (by rw [← hn] at e; exact e)), if_pos hn.symm]
    rfl
  | g :: r, k + 1, f, hs, hk, hn => by
    obtain ⟨h1, h2⟩ := srt_cons.1 hs
    have hk2 : k < r.length := by simpa using hk
    have hn2 : r[k].name = f.name := hn
    have h3 : g.name < f.name := hn2 ▸ h1 _ (List.getElem_mem hk2)
    unfold putF
    rw [if_neg (fun e => nm_irr _ (nm_trans e h3)), if_neg (fun e => by rw [e] at h3; exact nm_irr _ h3)]
    rw [← set_put h2 hk2 hn2]
    rfl
theorem erase_del : ∀ {l : List Fl} {k : Nat} {x : Nm}, Srt l → ∀ hk : k < l.length, l[k].name = x → l.eraseIdx k = delF x l
  | g :: r, 0, x, hs, hk, hn => by
    obtain ⟨h1, h2⟩ := srt_cons.1 hs
    have hn : g.name = x := hn
    unfold delF
    rw [List.filter_cons, if_neg (by simp [hn])]
    show r = _
    symm
    rw [List.filter_eq_self]
    intro b hb
    have := h1 b hb
    rw [hn] at this
    simp
    intro e
    rw [e] at this
    exact nm_irr _ this
  | g :: r, k + 1, x, hs, hk, hn => by
    obtain ⟨h1, h2⟩ := srt_cons.1 hs
    have hk2 : k < r.length := by simpa using hk
    have hn2 : r[k].name = x := hn
    have h3 : g.name < x := hn2 ▸ h1 _ (List.getElem_mem hk2)
    have ih := erase_del h2 hk2 hn2
    unfold delF at *
    rw [List.filter_cons, if_pos (by simp; intro e; rw [e] at h3; exact nm_irr _ h3), ← ih]
    rfl
/-- the row alone is written -/
theorem RefAt.row1 (h : RefAt w t v O s) (F : Fr (fun i => some i = v.ownBlock) w w') (hz : w'.heap.size = w.heap.size) (hr : FRow w' v l) (hok : DkOk { s with fs := l }) : RefAt w' t v O { s with fs := l } :=
  ⟨hok, F.keep h.cells (fun e => h.ne e.symm rfl), hr, h.own, fun i hi => by rw [hz]; exact h.lt i hi⟩
theorem RefAt.rowO (h : RefAt w t v O s) (F : Fr (fun i => some i = v.ownBlock) w w') : Fr O w w' := F.mono (fun i _ e => h.own.2 i e.symm)
theorem rsync_nil (x : Nm) (w : World) : Calls Try.prog 50 #[.pointer none, St x] w (Same (.int .i64 2) w) := by
  go_enter Try.func50, Try.ntmps50
  go_wp2_with (go_at_call 55; refine (rcheck_nil _ _).mono ?_; rintro e w2 ⟨rfl, rfl⟩)
  go_ret
  exact ⟨rfl, rfl⟩
set_option maxRecDepth 100000 in
set_option maxHeartbeats 2000000 in
theorem rsync_any (h : IsRef w t O s) (hst : s.steps < 4611686018427387904) {x : Nm} (hx : x.length ≤ maxLen) : Calls Try.prog 50 #[Pt t, St x] w (ActsR w t O (.int .i64 (syncD s x).1) (syncD s x).2) := by
  obtain ⟨v, h⟩ := h
  have H := hide h
  have bad : ∀ c, checkI s [x] = c → (c == 0) = false → syncD s x = (c, s) → Calls Try.prog 50 #[Pt t, St x] w (ActsR w t O (.int .i64 (syncD s x).1) (syncD s x).2) := fun c h1 h2 h3 => by
    rw [h3]
    have C := rcheck_any h hx
    rw [h1] at C
    have C := hide C
    have h4 : ¬ c = 0 := by simpa using h2
    clear h h1 h2 h3 hx hst
    go_enter Try.func50, Try.ntmps50
    go_wp2_with (go_at_call 55; refine C.out.mono ?_; rintro e w2 ⟨rfl, rfl⟩)
    go_ret
    exact ⟨rfl, Fr.refl _ _, IsRef.acts ⟨v, H.out⟩ (Fr.refl _ _) ⟨v, H.out⟩⟩
  rcases chk1 s x with ⟨h1, h2⟩ | ⟨h1, h2, h3⟩ | ⟨h1, h2, h3⟩
  · exact bad 60 h2 rfl (by unfold syncD; rw [h1]; rfl)
  · exact bad 61 h3 rfl (by unfold syncD; rw [h1, h2]; rfl)
  clear bad
  have C0 := rcheck_any h hx
  rw [h3] at C0
  have C := hide C0
  have P0 := place_any h x
  clear C0
  cases hf : find s.fs x with
  | none =>
    have E : syncD s x = (62, s) := by unfold syncD; rw [h1, h2, hf]; rfl
    rw [pl_none hf] at P0
    have P := hide P0
    rw [E]
    clear P0 h h1 h2 h3 hx hf E hst
    go_enter Try.func50, Try.ntmps50
    go_wp2_with (first
      | (go_at_call 55; refine C.out.mono ?_; rintro e w2 ⟨rfl, rfl⟩)
      | (go_at_call 56; refine P.out.mono ?_; rintro e w2 ⟨rfl, rfl⟩))
    go_ret
    exact ⟨rfl, Fr.refl _ _, IsRef.acts ⟨v, H.out⟩ (Fr.refl _ _) ⟨v, H.out⟩⟩
  | some f =>
  obtain ⟨k, hk, hkl, hkf⟩ := pl_some hf
  rw [hk] at P0
  have P := hide P0
  clear P0 hk
  by_cases h0 : s.left = 0
  · have E : syncD s x = (60, offD s s.keep) := by unfold syncD goD; rw [h1, h2, hf]; simp [h0]
    rw [E]
    have G := hide (power_off h h0)
    clear h h1 h2 h3 hx hf E hst h0 hkf
    go_enter Try.func50, Try.ntmps50
    go_wp2_with (first
      | (go_at_call 55; refine C.out.mono ?_; rintro e w2 ⟨rfl, rfl⟩)
      | (go_at_call 56; refine P.out.mono ?_; rintro e w2 ⟨rfl, rfl⟩)
      | (go_at_call 58; refine G.out.mono ?_; intro e w3 K; obtain rfl := K.1))
    go_ret
    exact ⟨rfl, K.2⟩
  have G := hide (power_go h (by simpa using h0) hst)
  obtain ⟨g, cap, rfl, y0, y1, y2, y3, y4⟩ := h.row.at hkl
  clear y0 y1 y2 y3 y4
  have hn : s.fs.length ≤ 16 := h.ok.len
  have SR := h.ok.srt
  have hkn : (k : Int) < (s.fs.length : Int) := by omega
  have E : syncD s x = (0, tick { s with fs := putF ⟨x, f.data, f.data.length⟩ s.fs }) := by unfold syncD goD; rw [h1, h2, hf]; simp [h0]
  have hfn := find_name hf
  have ST : s.fs.set k ⟨f.name, f.data, f.data.length⟩ = putF ⟨x, f.data, f.data.length⟩ s.fs := by
    rw [hfn]
    exact set_put SR hkl (by rw [hkf]; exact hfn)
  have OK := hide ((h.ok.put (f := ⟨x, f.data, f.data.length⟩) ⟨Nat.le_refl _, (h.ok.ok f (find_mem hf)).2.1, hfn ▸ (h.ok.ok f (find_mem hf)).2.2⟩ (Or.inl (by rw [hf]; rfl))).tick)
  have hdl := (h.ok.ok f (find_mem hf)).2.1
  rw [E]
  clear h h1 h2 h3 hx hf E hst h0 SR
  go_enter Try.func50, Try.ntmps50
  go_wp2_with fail
  refine C.out.mono ?_
  rintro e w2 ⟨rfl, rfl⟩
  go_wp2_with fail
  refine P.out.mono ?_
  rintro e w2 ⟨rfl, rfl⟩
  go_wp2_with fail
  refine G.out.mono ?_
  rintro e w3 ⟨rfl, F3, R3⟩
  have HR : FRow w3 (.slice (some ⟨g, 0, none⟩) s.fs.length cap) s.fs := R3.row
  obtain ⟨c0, _⟩ := R3.cs
  obtain ⟨x0, x1, x2, x3⟩ := HR.c hkl
  rw [hkf] at x0 x1 x2
  have R5 := hide (R3.no (Fr.drew w3))
  have F5 := hide (F3.andNo (Fr.drew w3))
  have HKL := hide hkl
  have HKF := hide (show s.fs[k]'(HKL.out) = f from hkf)
  have HST := hide ST
  clear HR x0 x2 x3 R3 F3 hkl hkf ST
  go_wp2
  go_still_tail 16, (by kernel_rfl)
  change wpList _ _ _ _ _ w3.drew
  generalize w3.drew = w5 at *
  clear x1 c0
  have HR5 := hide (show FRow w5 (.slice (some ⟨g, 0, none⟩) s.fs.length cap) s.fs from R5.out.row)
  obtain ⟨_, _, _, x3⟩ := HR5.out.c HKL.out
  have q0 := x3 (k * 3 + 2)
  clear x3
  go_wp2
  go_ret
  have R6 := HR5.out.put HKL.out (i := 2) (by omega) (f' := ⟨f.name, f.data, f.data.length⟩) (u := .int .i64 (f.data.length : Nat)) (by rw [HKF.out]; rfl)
  rw [HST.out] at R6
  have Fst : Fr (fun i => some i = (Value.slice (some ⟨g, 0, none⟩) s.fs.length cap).ownBlock) w5 (w5.setCell ⟨g, k * 3 + 2, none⟩ (.int .i64 (f.data.length : Nat))) := (Fr.set w5 ⟨g, k * 3 + 2, none⟩ _).mono (fun i _ e => by have e : i = g := e; rw [e]; rfl)
  have R7 := R5.out.row1 Fst (by simp) R6 OK.out
  have F7 : Fr O w _ := (F5.out.mono (S2 := O) (fun i _ e => by rw [e]; exact H.out.own.1)).trans (R5.out.rowO Fst) (fun i _ e => e)
  exact ⟨rfl, F7, IsRef.acts ⟨_, H.out⟩ F7 ⟨_, R7⟩⟩
theorem rcut_nil (x : Nm) (a : Int) (w : World) : Calls Try.prog 45 #[.pointer none, St x, .int .i64 a] w (Same (.int .i64 2) w) := by
  go_enter Try.func45, Try.ntmps45
  go_wp2_with (go_at_call 55; refine (rcheck_nil _ _).mono ?_; rintro e w2 ⟨rfl, rfl⟩)
  go_ret
  exact ⟨rfl, rfl⟩
set_option maxRecDepth 100000 in
set_option maxHeartbeats 2000000 in
theorem rcut_any (h : IsRef w t O s) (hst : s.steps < 4611686018427387904) {x : Nm} (hx : x.length ≤ maxLen) (a : Int) : Calls Try.prog 45 #[Pt t, St x, .int .i64 a] w (ActsR w t O (.int .i64 (cutD s x a).1) (cutD s x a).2) := by
  obtain ⟨v, h⟩ := h
  have H := hide h
  have bad : ∀ c, checkI s [x] = c → (c == 0) = false → cutD s x a = (c, s) → Calls Try.prog 45 #[Pt t, St x, .int .i64 a] w (ActsR w t O (.int .i64 (cutD s x a).1) (cutD s x a).2) := fun c h1 h2 h3 => by
    rw [h3]
    have C := rcheck_any h hx
    rw [h1] at C
    have C := hide C
    have h4 : ¬ c = 0 := by simpa using h2
    clear h h1 h2 h3 hx hst
    go_enter Try.func45, Try.ntmps45
    go_wp2_with (go_at_call 55; refine C.out.mono ?_; rintro e w2 ⟨rfl, rfl⟩)
    go_ret
    exact ⟨rfl, Fr.refl _ _, IsRef.acts ⟨v, H.out⟩ (Fr.refl _ _) ⟨v, H.out⟩⟩
  rcases chk1 s x with ⟨h1, h2⟩ | ⟨h1, h2, h3⟩ | ⟨h1, h2, h3⟩
  · exact bad 60 h2 rfl (by unfold cutD; rw [h1]; rfl)
  · exact bad 61 h3 rfl (by unfold cutD; rw [h1, h2]; rfl)
  clear bad
  have C0 := rcheck_any h hx
  rw [h3] at C0
  have C := hide C0
  have P0 := place_any h x
  clear C0
  cases hf : find s.fs x with
  | none =>
    have E : cutD s x a = (62, s) := by unfold cutD; rw [h1, h2, hf]; rfl
    rw [pl_none hf] at P0
    have P := hide P0
    rw [E]
    clear P0 h h1 h2 h3 hx hf E hst
    go_enter Try.func45, Try.ntmps45
    go_wp2_with (first
      | (go_at_call 55; refine C.out.mono ?_; rintro e w2 ⟨rfl, rfl⟩)
      | (go_at_call 56; refine P.out.mono ?_; rintro e w2 ⟨rfl, rfl⟩))
    go_ret
    exact ⟨rfl, Fr.refl _ _, IsRef.acts ⟨v, H.out⟩ (Fr.refl _ _) ⟨v, H.out⟩⟩
  | some f =>
  obtain ⟨k, hk, hkl, hkf⟩ := pl_some hf
  rw [hk] at P0
  have P := hide P0
  clear P0 hk
  have hfn := find_name hf
  have hdl := (h.ok.ok f (find_mem hf)).2.1
  have hnl := hfn ▸ (h.ok.ok f (find_mem hf)).2.2
  obtain ⟨g, cap, rfl, y0, y1, y2, y3, y4⟩ := h.row.at hkl
  clear y0 y1 y2 y3 y4
  have hn : s.fs.length ≤ 16 := h.ok.len
  have SR := h.ok.srt
  have hkn : (k : Int) < (s.fs.length : Int) := by omega
  obtain ⟨c0, _⟩ := h.cs
  obtain ⟨x0, x1, x2, x3⟩ := h.row.c hkl
  rw [hkf] at x1
  have HKL := hide hkl
  have HKF := hide (show s.fs[k]'(HKL.out) = f from hkf)
  clear x0 x2 x3 hkf
  by_cases ha : a < 0 ∨ (f.data.length : Int) < a
  · have E : cutD s x a = (1, s) := by unfold cutD; rw [h1, h2, hf]; simp [ha]
    rw [E]
    clear h h1 h2 h3 hx hf E hst SR hfn hnl hkl
    rcases Int.lt_or_le a 0 with ha0 | ha0
    · go_enter Try.func45, Try.ntmps45
      go_wp2_with (first
        | (go_at_call 55; refine C.out.mono ?_; rintro e w2 ⟨rfl, rfl⟩)
        | (go_at_call 56; refine P.out.mono ?_; rintro e w2 ⟨rfl, rfl⟩))
      go_ret
      exact ⟨rfl, Fr.refl _ _, IsRef.acts ⟨_, H.out⟩ (Fr.refl _ _) ⟨_, H.out⟩⟩
    · have ha1 : (f.data.length : Int) < a := by omega
      have ha2 : ¬ a < 0 := by omega
      clear ha
      go_enter Try.func45, Try.ntmps45
      go_wp2_with (first
        | (go_at_call 55; refine C.out.mono ?_; rintro e w2 ⟨rfl, rfl⟩)
        | (go_at_call 56; refine P.out.mono ?_; rintro e w2 ⟨rfl, rfl⟩))
      go_ret
      exact ⟨rfl, Fr.refl _ _, IsRef.acts ⟨_, H.out⟩ (Fr.refl _ _) ⟨_, H.out⟩⟩
  have hb0 : 0 ≤ a := by omega
  have hb1 : a ≤ (f.data.length : Int) := by omega
  obtain ⟨m, rfl⟩ := Int.eq_ofNat_of_zero_le hb0
  have hml : m ≤ f.data.length := by omega
  have ha2 : ¬ (m : Int) < 0 := by omega
  have ha3 : ¬ (f.data.length : Int) < (m : Int) := by omega
  by_cases h0 : s.left = 0
  · have E : cutD s x m = (60, offD s s.keep) := by unfold cutD goD; rw [h1, h2, hf]; simp [h0, ha2, ha3]
    rw [E]
    have G := hide (power_off h h0)
    clear SR hfn hnl hkl ha hb0
    clear h h1 h2 h3 hx hf E hst h0
    go_enter Try.func45, Try.ntmps45
    go_wp2_with (first
      | (go_at_call 55; refine C.out.mono ?_; rintro e w2 ⟨rfl, rfl⟩)
      | (go_at_call 56; refine P.out.mono ?_; rintro e w2 ⟨rfl, rfl⟩)
      | (go_at_call 58; refine G.out.mono ?_; intro e w3 K; obtain rfl := K.1))
    go_ret
    exact ⟨rfl, K.2⟩
  have G := hide (power_go h (by simpa using h0) hst)
  have E : cutD s x m = (0, tick { s with fs := putF ⟨x, f.data.take m, m⟩ s.fs }) := by unfold cutD goD; rw [h1, h2, hf]; simp [h0, ha2, ha3]
  have ST : s.fs.set k ⟨f.name, f.data.take m, m⟩ = putF ⟨x, f.data.take m, m⟩ s.fs := by
    rw [hfn]
    exact set_put SR hkl (by rw [HKF.out]; exact hfn)
  have OK := hide ((h.ok.put (f := ⟨x, f.data.take m, m⟩) ⟨by show m ≤ (f.data.take m).length; rw [List.length_take]; omega, by show (f.data.take m).length ≤ _; rw [List.length_take]; omega, hnl⟩ (Or.inl (by rw [hf]; rfl))).tick)
  have J := bytes_take f.data m
  have HST := hide ST
  rw [E]
  clear h h1 h2 h3 hx hf E hst h0 SR hfn hnl hkl ST ha hb0
  go_enter Try.func45, Try.ntmps45
  go_wp2_with fail
  refine C.out.mono ?_
  rintro e w2 ⟨rfl, rfl⟩
  go_wp2_with fail
  refine P.out.mono ?_
  rintro e w2 ⟨rfl, rfl⟩
  go_wp2_with fail
  refine G.out.mono ?_
  rintro e w3 ⟨rfl, F3, R3⟩
  have HR : FRow w3 (.slice (some ⟨g, 0, none⟩) s.fs.length cap) s.fs := R3.row
  clear c0 x1
  obtain ⟨c0, _⟩ := R3.cs
  obtain ⟨x0, x1, x2, x3⟩ := HR.c HKL.out
  rw [HKF.out] at x0 x1 x2
  have R5 := hide (R3.no (Fr.drew w3))
  have F5 := hide (F3.andNo (Fr.drew w3))
  clear HR x0 x2 x3 R3 F3
  go_wp2
  go_still_tail 17, (by kernel_rfl)
  change wpList _ _ _ _ _ w3.drew
  generalize w3.drew = w5 at *
  clear x1 c0
  have HR5 := hide (show FRow w5 (.slice (some ⟨g, 0, none⟩) s.fs.length cap) s.fs from R5.out.row)
  obtain ⟨_, _, _, x3⟩ := HR5.out.c HKL.out
  have q0 := x3 (k * 3 + 1)
  clear x3
  have R6 := HR5.out.put HKL.out (i := 1) (by omega) (f' := ⟨f.name, f.data.take m, f.safe⟩) (u := St (f.data.take m)) (by rw [HKF.out]; rfl)
  have hk6 : k < (s.fs.set k ⟨f.name, f.data.take m, f.safe⟩).length := by rw [List.length_set]; exact HKL.out
  have q1 := (R6.c hk6).2.2.2 (k * 3 + 2)
  have T6 := (Fr.set w5 ⟨g, k * 3 + 1, none⟩ (St (f.data.take m))).keep R5.out.cells (fun e => R5.out.ne rfl e)
  have c0 := cell_at T6 0
  simp at c0
  have R8 := R6.put hk6 (i := 2) (by omega) (f' := ⟨f.name, f.data.take m, m⟩) (u := .int .i64 (m : Int)) (by rw [List.getElem_set_self]; rfl)
  rw [List.set_set, HST.out] at R8
  have HR8 := hide R8
  clear R6 T6 R8
  go_wp2
  go_ret
  have Fst : Fr (fun i => some i = (Value.slice (some ⟨g, 0, none⟩) s.fs.length cap).ownBlock) w5 ((w5.setCell ⟨g, k * 3 + 1, none⟩ (St (f.data.take m))).setCell ⟨g, k * 3 + 2, none⟩ (.int .i64 (m : Int))) := ((Fr.set w5 ⟨g, k * 3 + 1, none⟩ _).trans (Fr.set _ ⟨g, k * 3 + 2, none⟩ _) (fun i _ e => e)).mono (fun i _ e => by have e : i = g := e; rw [e]; rfl)
  have R7 := R5.out.row1 Fst (by simp) HR8.out OK.out
  have F7 : Fr O w _ := (F5.out.mono (S2 := O) (fun i _ e => by rw [e]; exact H.out.own.1)).trans (R5.out.rowO Fst) (fun i _ e => e)
  exact ⟨rfl, F7, IsRef.acts ⟨_, H.out⟩ F7 ⟨_, R7⟩⟩
end Go.Proofs.Ytnaedngbcndakaa
