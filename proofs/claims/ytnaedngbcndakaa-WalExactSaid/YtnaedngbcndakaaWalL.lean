/-
  A log in memory; the contracts of tell, check, Append, Sync, Size. Conditions: a string is no longer than an int, and fewer than 2^62 operations have been answered OK; the log's size is below 2^62.
-/
import Derived.Test.YtnaedngbcndakaaWalF
import Derived.Test.YtnaedngbcndakaaFilS
import Derived.StillTailTactics
namespace Go.Proofs.Ytnaedngbcndakaa
open Go.RowKit Go.Maps

variable {w w' w1 w2 w3 : World} {d g : Nat} {O : Nat → Prop} {s s' : Dk} {x p : Nm} {n : Nat} {b : Bool}
/-- a log's own cells -/
def LogAt (w : World) (g d : Nat) (x : Nm) (n : Nat) (b : Bool) : Prop := w.heap[g]? = some (.cells #[Pt d, St x, .int .i64 (n : Int), .bool b] 69 (0, 0))
theorem LogAt.fr {S : Nat → Prop} (h : LogAt w g d x n b) (k : Fr S w w') (hn : ¬ S g) : LogAt w' g d x n b := k.keep h hn
theorem LogAt.cells (h : LogAt w g d x n b) : w.cell? ⟨g, 0, none⟩ = some (Pt d) ∧ w.cell? ⟨g, 1, none⟩ = some (St x) ∧ w.cell? ⟨g, 2, none⟩ = some (.int .i64 (n : Int)) ∧ w.cell? ⟨g, 3, none⟩ = some (.bool b) ∧
    w.frozen? ⟨g, 2, none⟩ = false ∧ w.frozen? ⟨g, 3, none⟩ = false :=
  ⟨by rw [cell_at h]; rfl, by rw [cell_at h]; rfl, by rw [cell_at h]; rfl, by rw [cell_at h]; rfl, free_at h 2, free_at h 3⟩
abbrev OnG (g : Nat) : Nat → Prop := fun i => i = g
/-- a call that turns the log alone -/
def Marks (w : World) (d g : Nat) (x : Nm) (v : Value) (n : Nat) (b : Bool) (e : Ending) (w' : World) : Prop := e = .returned v ∧ Fr (OnG g) w w' ∧ LogAt w' g d x n b
/-- a call on a log and its disk: what it answers, both behind it -/
def ActsL (w : World) (d g : Nat) (O : Nat → Prop) (x : Nm) (v : Value) (n : Nat) (b : Bool) (s : Dk) (e : Ending) (w' : World) : Prop :=
  e = .returned v ∧ Fr (fun i => O i ∨ i = g) w w' ∧ IsDsk w' d (Gr O w w') s ∧ LogAt w' g d x n b

theorem tell_any (h : LogAt w g d x n b) (c : Int) : Calls Try.prog 47 #[Pt g, .int .i64 c] w (Marks w d g x (.int .i64 c) n (b || decide (c = 60))) := by
  obtain ⟨_, _, _, c3, _, f3⟩ := h.cells
  have H := hide h
  clear h
  by_cases hc : c = 60
  · have E := hide (show (b || decide (c = 60)) = true by simp [hc])
    go_enter Try.func47, Try.ntmps47
    go_wp2
    go_ret
    refine ⟨rfl, Fr.set w ⟨g, 3, none⟩ _, ?_⟩
    rw [E.out]
    have := set_block H.out 3 (.bool true)
    exact this
  · have E := hide (show (b || decide (c = 60)) = b by simp [hc])
    go_enter Try.func47, Try.ntmps47
    go_wp2
    go_ret
    exact ⟨rfl, Fr.refl _ _, by rw [E.out]; exact H.out⟩
theorem check_log_nil (w : World) : Calls Try.prog 46 #[.pointer none] w (Same (.int .i64 2) w) := by
  go_enter Try.func46, Try.ntmps46
  go_wp2
  go_ret
  exact ⟨rfl, rfl⟩
set_option maxRecDepth 100000 in
theorem check_log (h : IsDsk w d O s) (hl : LogAt w g d x n b) : Calls Try.prog 46 #[Pt g] w (Marks w d g x (.int .i64 (if (b || s.down) = true then 60 else 0)) n (b || s.down)) := by
  obtain ⟨c0, _, _, c3, _, _⟩ := hl.cells
  have D := hide (down_any h)
  have T := hide (tell_any hl 60)
  have H := hide hl
  clear h hl
  cases b with
  | true =>
    rw [show (true || s.down) = true from rfl, if_pos rfl]
    go_enter Try.func46, Try.ntmps46
    go_wp2_with fail
    refine T.out.mono ?_
    rintro e w2 ⟨rfl, F, L⟩
    go_wp2
    go_ret
    exact ⟨rfl, F, L⟩
  | false =>
    cases hd : s.down with
    | true =>
      rw [hd] at D
      rw [show (false || true) = true from rfl, if_pos rfl]
      go_enter Try.func46, Try.ntmps46
      go_wp2_with fail
      refine D.out.mono ?_
      rintro e w2 ⟨rfl, rfl⟩
      go_wp2_with fail
      refine T.out.mono ?_
      rintro e w2 ⟨rfl, F, L⟩
      go_wp2
      go_ret
      exact ⟨rfl, F, L⟩
    | false =>
      rw [hd] at D
      rw [show (false || false) = false from rfl, if_neg (by simp)]
      go_enter Try.func46, Try.ntmps46
      go_wp2_with fail
      refine D.out.mono ?_
      rintro e w2 ⟨rfl, rfl⟩
      go_wp2
      go_ret
      exact ⟨rfl, Fr.refl _ _, H.out⟩
theorem size_log_nil (w : World) : Calls Try.prog 29 #[.pointer none] w (Same (.int .i64 0) w) := by
  go_enter Try.func29, Try.ntmps29
  go_wp2
  go_ret
  exact ⟨rfl, rfl⟩
theorem size_log (hl : LogAt w g d x n b) : Calls Try.prog 29 #[Pt g] w (Same (.int .i64 (n : Int)) w) := by
  obtain ⟨_, _, c2, _, _, _⟩ := hl.cells
  clear hl
  go_enter Try.func29, Try.ntmps29
  go_wp2
  go_ret
  exact ⟨rfl, rfl⟩
theorem lappend_nil (v : Value) (w : World) : Calls Try.prog 17 #[.pointer none, v] w (Same (.int .i64 2) w) := by
  go_enter Try.func17, Try.ntmps17
  go_wp2_with fail
  refine (check_log_nil w).mono ?_
  rintro e w2 ⟨rfl, rfl⟩
  go_wp2
  go_ret
  exact ⟨rfl, rfl⟩
theorem lsync_nil (w : World) : Calls Try.prog 19 #[.pointer none] w (Same (.int .i64 2) w) := by
  go_enter Try.func19, Try.ntmps19
  go_wp2_with fail
  refine (check_log_nil w).mono ?_
  rintro e w2 ⟨rfl, rfl⟩
  go_wp2
  go_ret
  exact ⟨rfl, rfl⟩

/-! ### the calls: the number that is answered, the log and the disk behind it -/
def lappD (x p : Nm) (n : Nat) (b : Bool) (s : Dk) : Int × (Nat × Bool) × Dk :=
  if (b || s.down) = true then (60, (n, true), s) else if recOk p then ((appendD s x (frameL p)).1, (if (appendD s x (frameL p)).1 = 0 then n + (8 + p.length) else n, decide ((appendD s x (frameL p)).1 = 60)), (appendD s x (frameL p)).2) else (1, (n, false), s)
def lsyncD (x : Nm) (n : Nat) (b : Bool) (s : Dk) : Int × (Nat × Bool) × Dk :=
  if (b || s.down) = true then (60, (n, true), s) else (if (syncD s x).1 = 62 then 0 else (syncD s x).1, (n, decide ((syncD s x).1 = 60)), (syncD s x).2)
theorem marks_acts {v : Value} {e : Ending} (h : IsDsk w d O s) (hg : ¬ O g) (k : Marks w d g x v n b e w') : ActsL w d g O x v n b s e w' := by
  obtain ⟨h1, h2, h3⟩ := k
  have h4 : IsDsk w' d O s := h.fr h2 (fun i hi e => hg (e ▸ hi))
  exact ⟨h1, h2.mono (fun i _ e => Or.inr e), h4.wider (fun _ e => Or.inl e) (gr_lt h.lt h2.size), h3⟩
theorem gr_not (hl : LogAt w g d x n b) (hg : ¬ O g) : ¬ Gr O w w' g := fun e => by
  rcases e with e | e
  · exact hg e
  · have := lt_of_block hl; omega
theorem acts_put {w4 w5 w6 : World} {n' : Nat} {b' : Bool} {v : Value} (h : IsDsk w d O s) (hg : ¬ O g) (hl : LogAt w4 g d x n b) (G4 : Fr (OnG g) w w4) (G5 : Fr O w4 w5) (D5 : IsDsk w5 d (Gr O w4 w5) s') (G6 : Fr (OnG g) w5 w6) (L6 : LogAt w6 g d x n' b') : ActsL w d g O x v n' b' s' (.returned v) w6 := by
  have hlt := h.lt
  have z1 := G4.size
  have z2 := G5.size
  have z3 := G6.size
  have ng : ¬ Gr O w4 w5 g := gr_not hl hg
  refine ⟨rfl, ((G4.mono (fun i _ e => Or.inr e)).trans (G5.mono (S2 := fun i => O i ∨ i = g) (fun i _ e => Or.inl e)) (fun i _ e => e)).trans (G6.mono (S2 := fun i => O i ∨ i = g) (fun i _ e => Or.inr e)) (fun i _ e => e), (D5.fr G6 (fun i hi e => ng (e ▸ hi))).wider (fun i hi => ?_) (gr_lt hlt (by omega)), L6⟩
  rcases hi with hi | hi
  · exact Or.inl hi
  · exact Or.inr ⟨by omega, by omega⟩
set_option maxRecDepth 100000 in
set_option maxHeartbeats 1000000 in
theorem lappend_any (h : IsDsk w d O s) (hl : LogAt w g d x n b) (hg : ¬ O g) (hst : s.steps < 4611686018427387904) (hx : x.length ≤ maxLen) (hn : n ≤ 4611686018427387904) :
    Calls Try.prog 17 #[Pt g, St p] w (ActsL w d g O x (.int .i64 (lappD x p n b s).1) (lappD x p n b s).2.1.1 (lappD x p n b s).2.1.2 (lappD x p n b s).2.2) := by
  have CK := hide (check_log h hl)
  have H := hide h
  have HG := hide hg
  by_cases hb : (b || s.down) = true
  · have E := hide (show lappD x p n b s = (60, (n, true), s) by unfold lappD; rw [if_pos hb])
    rw [if_pos hb, hb] at CK
    rw [E.out]
    clear h hl hg hb hst
    go_enter Try.func17, Try.ntmps17
    go_wp2_with fail
    refine CK.out.mono ?_
    rintro e w2 ⟨rfl, F, L⟩
    go_wp2
    go_ret
    exact marks_acts H.out HG.out ⟨rfl, F, L⟩
  · have hb0 : (b || s.down) = false := by simpa using hb
    rw [if_neg hb, hb0] at CK
    by_cases hp : recOk p
    · have FR := hide (fun W => frame_ok p hp W)
      have hfl := frame_length p
      have hp2 := hp.2
      have AP := hide (fun w2 (F : Fr (OnG g) w w2) => append_any (h.fr F (fun i hi e => hg (e ▸ hi))) hst hx (data := frameL p) (by rw [hfl]; unfold maxLen; omega))
      have E := hide (show lappD x p n b s = ((appendD s x (frameL p)).1, (if (appendD s x (frameL p)).1 = 0 then n + (8 + p.length) else n, decide ((appendD s x (frameL p)).1 = 60)), (appendD s x (frameL p)).2) by unfold lappD; rw [if_neg hb, if_pos hp])
      rw [E.out]
      generalize (appendD s x (frameL p)).1 = c at *
      generalize (appendD s x (frameL p)).2 = s2 at *
      generalize frameL p = q at *
      clear h hl hg hb hst hp hb0 E
      by_cases hc : c = 0
      · subst hc
        rw [if_pos rfl, show decide ((0 : Int) = 60) = false from rfl]
        have hq : (q.length : Int) = 8 + (p.length : Int) := by omega
        clear hfl
        go_enter Try.func17, Try.ntmps17
        go_wp2_with fail
        refine CK.out.mono ?_
        rintro e w2 ⟨rfl, F, L⟩
        go_wp2_with fail
        refine (FR.out w2).mono ?_
        rintro e w3 ⟨rfl, F3⟩
        have L3 := hide (L.fr F3 (fun e => e))
        have G3 := hide (F.andNo F3)
        obtain ⟨c0, c1, _, _, _, _⟩ := L3.out.cells
        clear L F F3
        go_wp2
        go_still_tail 9, (by kernel_rfl)
        change wpList _ _ _ _ _ w3.drew
        have L4 := hide (L3.out.fr (Fr.drew w3) (fun e => e))
        have G4 := hide (G3.out.andNo (Fr.drew w3))
        clear L3 G3 c0 c1
        generalize w3.drew = w4 at *
        go_wp2_with fail
        refine (AP.out w4 G4.out).mono ?_
        rintro e w5 ⟨rfl, G5, D5⟩
        have HL5 := hide (L4.out.fr G5 HG.out)
        obtain ⟨_, _, c2, _, f2, _⟩ := HL5.out.cells
        go_wp2
        go_ret
        have L6 := set_block HL5.out 2 (.int .i64 ((n : Int) + (8 + (p.length : Int))))
        refine acts_put H.out HG.out L4.out G4.out G5 D5 (Fr.set w5 ⟨g, 2, none⟩ _) (n' := n + (8 + p.length)) (b' := false) ?_
        rw [show (n : Int) + (8 + (p.length : Int)) = ((n + (8 + p.length) : Nat) : Int) by omega] at L6 ⊢
        exact L6
      · rw [if_neg hc]
        clear hfl
        go_enter Try.func17, Try.ntmps17
        go_wp2_with fail
        refine CK.out.mono ?_
        rintro e w2 ⟨rfl, F, L⟩
        go_wp2_with fail
        refine (FR.out w2).mono ?_
        rintro e w3 ⟨rfl, F3⟩
        have L3 := hide (L.fr F3 (fun e => e))
        have G3 := hide (F.andNo F3)
        obtain ⟨c0, c1, _, _, _, _⟩ := L3.out.cells
        clear L F F3
        go_wp2
        go_still_tail 9, (by kernel_rfl)
        change wpList _ _ _ _ _ w3.drew
        have L4 := hide (L3.out.fr (Fr.drew w3) (fun e => e))
        have G4 := hide (G3.out.andNo (Fr.drew w3))
        clear L3 G3 c0 c1
        generalize w3.drew = w4 at *
        go_wp2_with fail
        refine (AP.out w4 G4.out).mono ?_
        rintro e w5 ⟨rfl, G5, D5⟩
        have HL5 := hide (L4.out.fr G5 HG.out)
        have TL := hide (tell_any HL5.out c)
        rw [show (false || decide (c = 60)) = decide (c = 60) from rfl] at TL
        go_wp2_with fail
        refine TL.out.mono ?_
        rintro e w6 ⟨rfl, F6, L6⟩
        go_wp2
        go_ret
        exact acts_put H.out HG.out L4.out G4.out G5 D5 F6 L6
    · have E := hide (show lappD x p n b s = (1, (n, false), s) by unfold lappD; rw [if_neg hb, if_neg hp])
      have FR := hide (fun W => frame_bad p hp W)
      rw [E.out]
      clear h hl hg hb hst hp hb0
      go_enter Try.func17, Try.ntmps17
      go_wp2_with fail
      refine CK.out.mono ?_
      rintro e w2 ⟨rfl, F, L⟩
      go_wp2_with fail
      refine (FR.out w2).mono ?_
      rintro e w3 ⟨rfl, F3⟩
      go_wp2
      go_ret
      exact marks_acts H.out HG.out ⟨rfl, F.andNo F3, L.fr F3 (fun e => e)⟩
set_option maxRecDepth 100000 in
set_option maxHeartbeats 1000000 in
theorem lsync_any (h : IsDsk w d O s) (hl : LogAt w g d x n b) (hg : ¬ O g) (hst : s.steps < 4611686018427387904) (hx : x.length ≤ maxLen) :
    Calls Try.prog 19 #[Pt g] w (ActsL w d g O x (.int .i64 (lsyncD x n b s).1) (lsyncD x n b s).2.1.1 (lsyncD x n b s).2.1.2 (lsyncD x n b s).2.2) := by
  have CK := hide (check_log h hl)
  have H := hide h
  have HG := hide hg
  by_cases hb : (b || s.down) = true
  · have E := hide (show lsyncD x n b s = (60, (n, true), s) by unfold lsyncD; rw [if_pos hb])
    rw [if_pos hb, hb] at CK
    rw [E.out]
    clear h hl hg hb hst
    go_enter Try.func19, Try.ntmps19
    go_wp2_with fail
    refine CK.out.mono ?_
    rintro e w2 ⟨rfl, F, L⟩
    go_wp2
    go_ret
    exact marks_acts H.out HG.out ⟨rfl, F, L⟩
  · have hb0 : (b || s.down) = false := by simpa using hb
    rw [if_neg hb, hb0] at CK
    have AP := hide (fun w2 (F : Fr (OnG g) w w2) => sync_any (h.fr F (fun i hi e => hg (e ▸ hi))) hst hx)
    have E := hide (show lsyncD x n b s = (if (syncD s x).1 = 62 then 0 else (syncD s x).1, (n, decide ((syncD s x).1 = 60)), (syncD s x).2) by unfold lsyncD; rw [if_neg hb])
    rw [E.out]
    generalize (syncD s x).1 = c at *
    generalize (syncD s x).2 = s2 at *
    clear h hl hg hb hst hb0 E
    by_cases hc : c = 62
    · subst hc
      rw [if_pos rfl, show decide ((62 : Int) = 60) = false from rfl]
      go_enter Try.func19, Try.ntmps19
      go_wp2_with fail
      refine CK.out.mono ?_
      rintro e w3 ⟨rfl, F, L⟩
      have L3 := hide L
      have G3 := hide F
      obtain ⟨c0, c1, _, _, _, _⟩ := L.cells
      clear L F
      go_wp2
      go_still_tail 8, (by kernel_rfl)
      change wpList _ _ _ _ _ w3.drew
      have L4 := hide (L3.out.fr (Fr.drew w3) (fun e => e))
      have G4 := hide (G3.out.andNo (Fr.drew w3))
      clear L3 G3 c0 c1
      generalize w3.drew = w4 at *
      go_wp2_with fail
      refine (AP.out w4 G4.out).mono ?_
      rintro e w5 ⟨rfl, G5, D5⟩
      have HL5 := hide (L4.out.fr G5 HG.out)
      go_wp2
      go_ret
      exact acts_put H.out HG.out L4.out G4.out G5 D5 (Fr.refl _ _) HL5.out
    · rw [if_neg hc]
      go_enter Try.func19, Try.ntmps19
      go_wp2_with fail
      refine CK.out.mono ?_
      rintro e w3 ⟨rfl, F, L⟩
      have L3 := hide L
      have G3 := hide F
      obtain ⟨c0, c1, _, _, _, _⟩ := L.cells
      clear L F
      go_wp2
      go_still_tail 8, (by kernel_rfl)
      change wpList _ _ _ _ _ w3.drew
      have L4 := hide (L3.out.fr (Fr.drew w3) (fun e => e))
      have G4 := hide (G3.out.andNo (Fr.drew w3))
      clear L3 G3 c0 c1
      generalize w3.drew = w4 at *
      go_wp2_with fail
      refine (AP.out w4 G4.out).mono ?_
      rintro e w5 ⟨rfl, G5, D5⟩
      have HL5 := hide (L4.out.fr G5 HG.out)
      have TL := hide (tell_any HL5.out c)
      rw [show (false || decide (c = 60)) = decide (c = 60) from rfl] at TL
      go_wp2_with fail
      refine TL.out.mono ?_
      rintro e w6 ⟨rfl, F6, L6⟩
      go_wp2
      go_ret
      exact acts_put H.out HG.out L4.out G4.out G5 D5 F6 L6
end Go.Proofs.Ytnaedngbcndakaa
