/-
  The document's own log in memory; the contracts of its check, Append, Sync, Size, Open (tenancyref07). Conditions: a string is no longer than an int, and fewer than 2^62 operations have been answered OK; the log's size is below 2^62.
-/
import Derived.Test.YtnaedngbcndakaaWalO
import Derived.Test.YtnaedngbcndakaaWalRa
import Derived.Test.YtnaedngbcndakaaFilRh
import Derived.StillTailTactics
namespace Go.Proofs.Ytnaedngbcndakaa
open Go.RowKit Go.Maps

variable {w w' w1 w2 w3 w4 w5 : World} {d g : Nat} {O : Nat → Prop} {s s' : Dk} {x p : Nm} {n : Nat} {b : Bool}
/-- a log's own cells -/
def RLogAt (w : World) (g d : Nat) (x : Nm) (n : Nat) (b : Bool) : Prop := w.heap[g]? = some (.cells #[Pt d, St x, .int .i64 (n : Int), .bool b] 77 (0, 0))
theorem RLogAt.fr {S : Nat → Prop} (h : RLogAt w g d x n b) (k : Fr S w w') (hn : ¬ S g) : RLogAt w' g d x n b := k.keep h hn
theorem RLogAt.cells (h : RLogAt w g d x n b) : w.cell? ⟨g, 0, none⟩ = some (Pt d) ∧ w.cell? ⟨g, 1, none⟩ = some (St x) ∧ w.cell? ⟨g, 2, none⟩ = some (.int .i64 (n : Int)) ∧ w.cell? ⟨g, 3, none⟩ = some (.bool b) ∧
    w.frozen? ⟨g, 2, none⟩ = false ∧ w.frozen? ⟨g, 3, none⟩ = false :=
  ⟨by rw [cell_at h]; rfl, by rw [cell_at h]; rfl, by rw [cell_at h]; rfl, by rw [cell_at h]; rfl, free_at h 2, free_at h 3⟩
/-- a call that turns the log alone -/
def MarksR (w : World) (d g : Nat) (x : Nm) (v : Value) (n : Nat) (b : Bool) (e : Ending) (w' : World) : Prop := e = .returned v ∧ Fr (OnG g) w w' ∧ RLogAt w' g d x n b
/-- a call on a log and its disk: what it answers, both behind it -/
def ActsRL (w : World) (d g : Nat) (O : Nat → Prop) (x : Nm) (v : Value) (n : Nat) (b : Bool) (s : Dk) (e : Ending) (w' : World) : Prop :=
  e = .returned v ∧ Fr (fun i => O i ∨ i = g) w w' ∧ IsRef w' d (Gr O w w') s ∧ RLogAt w' g d x n b
theorem ref_down (h : IsRef w d O s) : Calls Try.prog 34 #[Pt d] w (Same (.bool s.down) w) := by
  obtain ⟨v, h⟩ := h
  exact rdown_any h
theorem rlcheck_nil (w : World) : Calls Try.prog 48 #[.pointer none] w (Same (.int .i64 2) w) := by
  go_enter Try.func48, Try.ntmps48
  go_wp2
  go_ret
  exact ⟨rfl, rfl⟩
set_option maxRecDepth 100000 in
theorem rlcheck (h : IsRef w d O s) (hl : RLogAt w g d x n b) : Calls Try.prog 48 #[Pt g] w (MarksR w d g x (.int .i64 (if (b || s.down) = true then 60 else 0)) n (b || s.down)) := by
  obtain ⟨c0, _, _, c3, _, f3⟩ := hl.cells
  have D := hide (ref_down h)
  have H := hide hl
  clear h hl
  cases hd : s.down with
  | true =>
    rw [hd] at D
    rw [show (b || true) = true by simp, if_pos rfl]
    go_enter Try.func48, Try.ntmps48
    go_wp2_with fail
    refine D.out.mono ?_
    rintro e w2 ⟨rfl, rfl⟩
    go_wp2
    go_ret
    refine ⟨rfl, Fr.set w ⟨g, 3, none⟩ _, ?_⟩
    have := set_block H.out 3 (.bool true)
    exact this
  | false =>
    rw [hd] at D
    cases b with
    | true =>
      rw [show (true || false) = true from rfl, if_pos rfl]
      go_enter Try.func48, Try.ntmps48
      go_wp2_with fail
      refine D.out.mono ?_
      rintro e w2 ⟨rfl, rfl⟩
      go_wp2
      go_ret
      exact ⟨rfl, Fr.refl _ _, H.out⟩
    | false =>
      rw [show (false || false) = false from rfl, if_neg (by simp)]
      go_enter Try.func48, Try.ntmps48
      go_wp2_with fail
      refine D.out.mono ?_
      rintro e w2 ⟨rfl, rfl⟩
      go_wp2
      go_ret
      exact ⟨rfl, Fr.refl _ _, H.out⟩
theorem rlsize_nil (w : World) : Calls Try.prog 30 #[.pointer none] w (Same (.int .i64 0) w) := by
  go_enter Try.func30, Try.ntmps30
  go_wp2
  go_ret
  exact ⟨rfl, rfl⟩
theorem rlsize (hl : RLogAt w g d x n b) : Calls Try.prog 30 #[Pt g] w (Same (.int .i64 (n : Int)) w) := by
  obtain ⟨_, _, c2, _, _, _⟩ := hl.cells
  clear hl
  go_enter Try.func30, Try.ntmps30
  go_wp2
  go_ret
  exact ⟨rfl, rfl⟩
theorem rlappend_nil (v : Value) (w : World) : Calls Try.prog 18 #[.pointer none, v] w (Same (.int .i64 2) w) := by
  go_enter Try.func18, Try.ntmps18
  go_wp2_with fail
  refine (rlcheck_nil w).mono ?_
  rintro e w2 ⟨rfl, rfl⟩
  go_wp2
  go_ret
  exact ⟨rfl, rfl⟩
theorem rlsync_nil (w : World) : Calls Try.prog 20 #[.pointer none] w (Same (.int .i64 2) w) := by
  go_enter Try.func20, Try.ntmps20
  go_wp2_with fail
  refine (rlcheck_nil w).mono ?_
  rintro e w2 ⟨rfl, rfl⟩
  go_wp2
  go_ret
  exact ⟨rfl, rfl⟩
theorem rmarks_acts {v : Value} {e : Ending} (h : IsRef w d O s) (hg : ¬ O g) (k : MarksR w d g x v n b e w') : ActsRL w d g O x v n b s e w' := by
  obtain ⟨h1, h2, h3⟩ := k
  have h4 : IsRef w' d O s := h.fr h2 (fun i hi e => hg (e ▸ hi))
  exact ⟨h1, h2.mono (fun i _ e => Or.inr e), h4.wider (fun _ e => Or.inl e) (gr_lt h.lt h2.size), h3⟩
theorem rgr_not (hl : RLogAt w g d x n b) (hg : ¬ O g) : ¬ Gr O w w' g := fun e => by
  rcases e with e | e
  · exact hg e
  · have := lt_of_block hl; omega
theorem racts_put {w4 w5 w6 : World} {n' : Nat} {b' : Bool} {v : Value} (h : IsRef w d O s) (hg : ¬ O g) (hl : RLogAt w4 g d x n b) (G4 : Fr (OnG g) w w4) (G5 : Fr O w4 w5) (D5 : IsRef w5 d (Gr O w4 w5) s') (G6 : Fr (OnG g) w5 w6) (L6 : RLogAt w6 g d x n' b') : ActsRL w d g O x v n' b' s' (.returned v) w6 := by
  have hlt := h.lt
  have z1 := G4.size
  have z2 := G5.size
  have z3 := G6.size
  have ng : ¬ Gr O w4 w5 g := rgr_not hl hg
  refine ⟨rfl, ((G4.mono (fun i _ e => Or.inr e)).trans (G5.mono (S2 := fun i => O i ∨ i = g) (fun i _ e => Or.inl e)) (fun i _ e => e)).trans (G6.mono (S2 := fun i => O i ∨ i = g) (fun i _ e => Or.inr e)) (fun i _ e => e), (D5.fr G6 (fun i hi e => ng (e ▸ hi))).wider (fun i hi => ?_) (gr_lt hlt (by omega)), L6⟩
  rcases hi with hi | hi
  · exact Or.inl hi
  · exact Or.inr ⟨by omega, by omega⟩
set_option maxRecDepth 100000 in
set_option maxHeartbeats 2000000 in
theorem rlappend_any (h : IsRef w d O s) (hl : RLogAt w g d x n b) (hg : ¬ O g) (hst : s.steps < 4611686018427387904) (hx : x.length ≤ maxLen) (hn : n ≤ 4611686018427387904) (hpl : p.length ≤ maxLen) :
    Calls Try.prog 18 #[Pt g, St p] w (ActsRL w d g O x (.int .i64 (lappD x p n b s).1) (lappD x p n b s).2.1.1 (lappD x p n b s).2.1.2 (lappD x p n b s).2.2) := by
  have CK := hide (rlcheck h hl)
  have H := hide h
  have HG := hide hg
  by_cases hb : (b || s.down) = true
  · have E := hide (show lappD x p n b s = (60, (n, true), s) by unfold lappD; rw [if_pos hb])
    rw [if_pos hb, hb] at CK
    rw [E.out]
    clear h hl hg hb hst
    go_enter Try.func18, Try.ntmps18
    go_wp2_with fail
    refine CK.out.mono ?_
    rintro e w2 ⟨rfl, F, L⟩
    go_wp2
    go_ret
    exact rmarks_acts H.out HG.out ⟨rfl, F, L⟩
  · have hb0 : (b || s.down) = false := by simpa using hb
    rw [if_neg hb, hb0] at CK
    by_cases hp : recOk p
    · have FR := hide (fun W => rframe_ok p hp W)
      have hfl := frame_length p
      have hp2 := hp.2
      have AP := hide (fun w2 (F : Fr (OnG g) w w2) => rappend_any (h.fr F (fun i hi e => hg (e ▸ hi))) hst hx (data := frameL p))
      have E := hide (show lappD x p n b s = ((appendD s x (frameL p)).1, (if (appendD s x (frameL p)).1 = 0 then n + (8 + p.length) else n, decide ((appendD s x (frameL p)).1 = 60)), (appendD s x (frameL p)).2) by unfold lappD; rw [if_neg hb, if_pos hp])
      rw [E.out]
      generalize (appendD s x (frameL p)).1 = c at *
      generalize (appendD s x (frameL p)).2 = s2 at *
      generalize frameL p = q at *
      have hq : (q.length : Int) = 8 + (p.length : Int) := by omega
      clear h hl hg hb hst hp hb0 E hfl hpl
      by_cases h60 : c = 60
      · subst h60
        rw [if_neg (by omega), decide_eq_true rfl]
        go_enter Try.func18, Try.ntmps18
        go_wp2_with fail
        refine CK.out.mono ?_
        rintro e w2 ⟨rfl, F, L⟩
        go_wp2_with fail
        refine (FR.out w2).mono ?_
        rintro e w3 ⟨rfl, F3⟩
        have L3 := hide (L.fr F3 (fun e => e))
        have G3 := hide (F.andNo F3)
        obtain ⟨c0, c1, _, _, _, _⟩ := L3.out.cells
        clear L F F3
        go_wp2
        go_still_tail 9, (by kernel_rfl)
        change wpList _ _ _ _ _ w3.drew
        have L4 := hide (L3.out.fr (Fr.drew w3) (fun e => e))
        have G4 := hide (G3.out.andNo (Fr.drew w3))
        clear L3 G3 c0 c1
        generalize w3.drew = w4 at *
        go_wp2_with fail
        refine (AP.out w4 G4.out).mono ?_
        rintro e w5 ⟨rfl, G5, D5⟩
        have HL5 := hide (L4.out.fr G5 HG.out)
        obtain ⟨_, _, c2, _, f2, f3⟩ := HL5.out.cells
        go_wp2
        go_ret
        have L6 := set_block HL5.out 3 (.bool true)
        exact racts_put H.out HG.out L4.out G4.out G5 D5 (Fr.set w5 ⟨g, 3, none⟩ _) L6
      · rw [decide_eq_false h60]
        by_cases h0 : c = 0
        · subst h0
          rw [if_pos rfl]
          clear h60
          go_enter Try.func18, Try.ntmps18
          go_wp2_with fail
          refine CK.out.mono ?_
          rintro e w2 ⟨rfl, F, L⟩
          go_wp2_with fail
          refine (FR.out w2).mono ?_
          rintro e w3 ⟨rfl, F3⟩
          have L3 := hide (L.fr F3 (fun e => e))
          have G3 := hide (F.andNo F3)
          obtain ⟨c0, c1, _, _, _, _⟩ := L3.out.cells
          clear L F F3
          go_wp2
          go_still_tail 9, (by kernel_rfl)
          change wpList _ _ _ _ _ w3.drew
          have L4 := hide (L3.out.fr (Fr.drew w3) (fun e => e))
          have G4 := hide (G3.out.andNo (Fr.drew w3))
          clear L3 G3 c0 c1
          generalize w3.drew = w4 at *
          go_wp2_with fail
          refine (AP.out w4 G4.out).mono ?_
          rintro e w5 ⟨rfl, G5, D5⟩
          have HL5 := hide (L4.out.fr G5 HG.out)
          obtain ⟨_, _, c2, _, f2, f3⟩ := HL5.out.cells
          go_wp2
          go_ret
          have L6 := set_block HL5.out 2 (.int .i64 ((n : Int) + (8 + (p.length : Int))))
          refine racts_put H.out HG.out L4.out G4.out G5 D5 (Fr.set w5 ⟨g, 2, none⟩ _) (n' := n + (8 + p.length)) (b' := false) ?_
          rw [show (n : Int) + (8 + (p.length : Int)) = ((n + (8 + p.length) : Nat) : Int) by omega] at L6 ⊢
          exact L6
        · rw [if_neg h0]
          go_enter Try.func18, Try.ntmps18
          go_wp2_with fail
          refine CK.out.mono ?_
          rintro e w2 ⟨rfl, F, L⟩
          go_wp2_with fail
          refine (FR.out w2).mono ?_
          rintro e w3 ⟨rfl, F3⟩
          have L3 := hide (L.fr F3 (fun e => e))
          have G3 := hide (F.andNo F3)
          obtain ⟨c0, c1, _, _, _, _⟩ := L3.out.cells
          clear L F F3
          go_wp2
          go_still_tail 9, (by kernel_rfl)
          change wpList _ _ _ _ _ w3.drew
          have L4 := hide (L3.out.fr (Fr.drew w3) (fun e => e))
          have G4 := hide (G3.out.andNo (Fr.drew w3))
          clear L3 G3 c0 c1
          generalize w3.drew = w4 at *
          go_wp2_with fail
          refine (AP.out w4 G4.out).mono ?_
          rintro e w5 ⟨rfl, G5, D5⟩
          have HL5 := hide (L4.out.fr G5 HG.out)
          obtain ⟨_, _, c2, _, f2, f3⟩ := HL5.out.cells
          go_wp2
          go_ret
          exact racts_put H.out HG.out L4.out G4.out G5 D5 (Fr.refl _ _) HL5.out
    · have E := hide (show lappD x p n b s = (1, (n, false), s) by unfold lappD; rw [if_neg hb, if_neg hp])
      have FR := hide (fun W => rframe_bad p hp hpl W)
      rw [E.out]
      clear h hl hg hb hst hp hb0
      go_enter Try.func18, Try.ntmps18
      go_wp2_with fail
      refine CK.out.mono ?_
      rintro e w2 ⟨rfl, F, L⟩
      go_wp2_with fail
      refine (FR.out w2).mono ?_
      rintro e w3 ⟨rfl, F3⟩
      go_wp2
      go_ret
      exact rmarks_acts H.out HG.out ⟨rfl, F.andNo F3, L.fr F3 (fun e => e)⟩
set_option maxRecDepth 100000 in
set_option maxHeartbeats 2000000 in
theorem rlsync_any (h : IsRef w d O s) (hl : RLogAt w g d x n b) (hg : ¬ O g) (hst : s.steps < 4611686018427387904) (hx : x.length ≤ maxLen) :
    Calls Try.prog 20 #[Pt g] w (ActsRL w d g O x (.int .i64 (lsyncD x n b s).1) (lsyncD x n b s).2.1.1 (lsyncD x n b s).2.1.2 (lsyncD x n b s).2.2) := by
  have CK := hide (rlcheck h hl)
  have H := hide h
  have HG := hide hg
  by_cases hb : (b || s.down) = true
  · have E := hide (show lsyncD x n b s = (60, (n, true), s) by unfold lsyncD; rw [if_pos hb])
    rw [if_pos hb, hb] at CK
    rw [E.out]
    clear h hl hg hb hst
    go_enter Try.func20, Try.ntmps20
    go_wp2_with fail
    refine CK.out.mono ?_
    rintro e w2 ⟨rfl, F, L⟩
    go_wp2
    go_ret
    exact rmarks_acts H.out HG.out ⟨rfl, F, L⟩
  · have hb0 : (b || s.down) = false := by simpa using hb
    rw [if_neg hb, hb0] at CK
    have AP := hide (fun w2 (F : Fr (OnG g) w w2) => rsync_any (h.fr F (fun i hi e => hg (e ▸ hi))) hst hx)
    have E := hide (show lsyncD x n b s = (if (syncD s x).1 = 62 then 0 else (syncD s x).1, (n, decide ((syncD s x).1 = 60)), (syncD s x).2) by unfold lsyncD; rw [if_neg hb])
    rw [E.out]
    generalize (syncD s x).1 = c at *
    generalize (syncD s x).2 = s2 at *
    clear h hl hg hb hst hb0 E
    by_cases h60 : c = 60
    · subst h60
      rw [if_neg (by omega), decide_eq_true rfl]
      go_enter Try.func20, Try.ntmps20
      go_wp2_with fail
      refine CK.out.mono ?_
      rintro e w3 ⟨rfl, F, L⟩
      have L3 := hide L
      have G3 := hide F
      obtain ⟨c0, c1, _, _, _, _⟩ := L.cells
      clear L F
      go_wp2
      go_still_tail 8, (by kernel_rfl)
      change wpList _ _ _ _ _ w3.drew
      have L4 := hide (L3.out.fr (Fr.drew w3) (fun e => e))
      have G4 := hide (G3.out.andNo (Fr.drew w3))
      clear L3 G3 c0 c1
      generalize w3.drew = w4 at *
      go_wp2_with fail
      refine (AP.out w4 G4.out).mono ?_
      rintro e w5 ⟨rfl, G5, D5⟩
      have HL5 := hide (L4.out.fr G5 HG.out)
      obtain ⟨_, _, c2, _, f2, f3⟩ := HL5.out.cells
      go_wp2
      go_ret
      have L6 := set_block HL5.out 3 (.bool true)
      exact racts_put H.out HG.out L4.out G4.out G5 D5 (Fr.set w5 ⟨g, 3, none⟩ _) L6
    · rw [decide_eq_false h60]
      by_cases h62 : c = 62
      · subst h62
        rw [if_pos rfl]
        clear h60
        go_enter Try.func20, Try.ntmps20
        go_wp2_with fail
        refine CK.out.mono ?_
        rintro e w3 ⟨rfl, F, L⟩
        have L3 := hide L
        have G3 := hide F
        obtain ⟨c0, c1, _, _, _, _⟩ := L.cells
        clear L F
        go_wp2
        go_still_tail 8, (by kernel_rfl)
        change wpList _ _ _ _ _ w3.drew
        have L4 := hide (L3.out.fr (Fr.drew w3) (fun e => e))
        have G4 := hide (G3.out.andNo (Fr.drew w3))
        clear L3 G3 c0 c1
        generalize w3.drew = w4 at *
        go_wp2_with fail
        refine (AP.out w4 G4.out).mono ?_
        rintro e w5 ⟨rfl, G5, D5⟩
        have HL5 := hide (L4.out.fr G5 HG.out)
        obtain ⟨_, _, c2, _, f2, f3⟩ := HL5.out.cells
        go_wp2
        go_ret
        exact racts_put H.out HG.out L4.out G4.out G5 D5 (Fr.refl _ _) HL5.out
      · rw [if_neg h62]
        go_enter Try.func20, Try.ntmps20
        go_wp2_with fail
        refine CK.out.mono ?_
        rintro e w3 ⟨rfl, F, L⟩
        have L3 := hide L
        have G3 := hide F
        obtain ⟨c0, c1, _, _, _, _⟩ := L.cells
        clear L F
        go_wp2
        go_still_tail 8, (by kernel_rfl)
        change wpList _ _ _ _ _ w3.drew
        have L4 := hide (L3.out.fr (Fr.drew w3) (fun e => e))
        have G4 := hide (G3.out.andNo (Fr.drew w3))
        clear L3 G3 c0 c1
        generalize w3.drew = w4 at *
        go_wp2_with fail
        refine (AP.out w4 G4.out).mono ?_
        rintro e w5 ⟨rfl, G5, D5⟩
        have HL5 := hide (L4.out.fr G5 HG.out)
        obtain ⟨_, _, c2, _, f2, f3⟩ := HL5.out.cells
        go_wp2
        go_ret
        exact racts_put H.out HG.out L4.out G4.out G5 D5 (Fr.refl _ _) HL5.out
end Go.Proofs.Ytnaedngbcndakaa
