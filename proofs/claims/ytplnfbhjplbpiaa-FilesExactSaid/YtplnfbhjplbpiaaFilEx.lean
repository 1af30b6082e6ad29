/-
  The walk of FilesExact. Conditions: an int is one of 64 bits, a string takes at most 2^47 bytes (every value that the statement takes is such).
-/
import Derived.Test.YtplnfbhjplbpiaaFilRt
namespace Go.Proofs.Ytplnfbhjplbpiaa
open Go.RowKit Go.Maps

theorem goD_le {a b : Dk} {n : Nat} (ha : a.steps ≤ n) (hb : b.steps ≤ n) : (goD a b).2.steps ≤ n + 1 := by
  unfold goD
  split
  · show a.steps ≤ _
    omega
  · show b.steps + 1 ≤ _
    omega
theorem step_le (s : Dk) (o : Op6) : (stepD s o).steps ≤ s.steps + 1 := by
  have r : s.steps ≤ s.steps + 1 := Nat.le_succ _
  unfold stepD
  repeat' split
  · unfold appendD
    repeat' split
    all_goals first | exact r | exact goD_le (Nat.le_refl _) (Nat.le_refl _)
  · unfold syncD
    repeat' split
    all_goals first | exact r | exact goD_le (Nat.le_refl _) (Nat.le_refl _)
  · unfold cutD
    repeat' split
    all_goals first | exact r | exact goD_le (Nat.le_refl _) (Nat.le_refl _)
  · unfold renameD
    repeat' split
    all_goals first | exact r | exact goD_le (Nat.le_refl _) (Nat.le_refl _)
  · unfold deleteD
    repeat' split
    all_goals first | exact r | exact goD_le (Nat.le_refl _) (Nat.le_refl _)
  · unfold armD
    split <;> exact r
  · unfold offC
    split <;> exact r
  · exact r
  · exact r
theorem duo_fr {v w : World} {d e : Nat} {s t : Dk} (h : Duo v No No w d e s t) : Fr No v w := h.fr.mono (fun i _ k => by rcases k with k | k <;> exact k.elim)
theorem sc_all {w0 W : World} {b o : Nat} {kind on n keep : Int} {name data : Nm} (hb : b < w0.heap.size)
    (h : w0.cell? ⟨b, o, none⟩ = some (.int .i64 kind) ∧ w0.cell? ⟨b, o + 1, none⟩ = some (.int .i64 on) ∧ w0.cell? ⟨b, o + 2, none⟩ = some (St name) ∧ w0.cell? ⟨b, o + 3, none⟩ = some (St data) ∧ w0.cell? ⟨b, o + 4, none⟩ = some (.int .i64 n) ∧ w0.cell? ⟨b, o + 5, none⟩ = some (.int .i64 keep)) (F : Fr No w0 W) :
    Fr No w0 W ∧ W.cell? ⟨b, o, none⟩ = some (.int .i64 kind) ∧ W.cell? ⟨b, o + 1, none⟩ = some (.int .i64 on) ∧ W.cell? ⟨b, o + 2, none⟩ = some (St name) ∧ W.cell? ⟨b, o + 3, none⟩ = some (St data) ∧ W.cell? ⟨b, o + 4, none⟩ = some (.int .i64 n) ∧ W.cell? ⟨b, o + 5, none⟩ = some (.int .i64 keep) := by
  have e := fun i => World.cell?_of_block (a := ⟨b, i, none⟩) (F.block b hb (fun e => e))
  refine ⟨F, ?_⟩
  rw [e, e, e, e, e, e]
  exact h
/-- a call's answer; nothing old has changed -/
def DT (v : World) (O1 Q1 : Nat → Prop) (w : World) (d e : Nat) (x : Value) (s t : Dk) (en : Ending) (w' : World) : Prop := en = .returned x ∧ Fr No w w' ∧ Duo v O1 Q1 w' d e s t
section
variable {v w : World} {O1 Q1 : Nat → Prop} {d e : Nat} {s t : Dk}
theorem dt_read1 (h : Duo v O1 Q1 w d e s t) {x : Nm} (hx : x.length ≤ maxLen) {u : Nm} {c : Int} (hr : readD s x = (u, c)) : Calls Try.prog 22 #[Pt d, St x] w (DT v O1 Q1 w d e (.tuple #[St u, .int .i64 c]) s t) := by
  obtain ⟨O, h1, _⟩ := h.left
  have := read_any h1 hx
  rw [hr] at this
  exact this.mono (fun _ _ k => ⟨k.1, k.2, h.no k.2⟩)
theorem dt_read2 (h : Duo v O1 Q1 w d e s t) {x : Nm} (hx : x.length ≤ maxLen) {u : Nm} {c : Int} (hr : readD t x = (u, c)) : Calls Try.prog 23 #[Pt e, St x] w (DT v O1 Q1 w d e (.tuple #[St u, .int .i64 c]) s t) := by
  obtain ⟨O, ⟨vv, h1⟩, _⟩ := h.right
  have := rread_any h1 hx
  rw [hr] at this
  exact this.mono (fun _ _ k => ⟨k.1, k.2 ▸ Fr.refl _ _, k.2 ▸ h⟩)
theorem dt_safe1 (h : Duo v O1 Q1 w d e s t) {x : Nm} (hx : x.length ≤ maxLen) : Calls Try.prog 15 #[Pt d, St x] w (DT v O1 Q1 w d e (.int .i64 (safeD s x : Nat)) s t) := by
  obtain ⟨O, h1, _⟩ := h.left
  exact (safe_any h1 hx).mono (fun _ _ k => ⟨k.1, k.2 ▸ Fr.refl _ _, k.2 ▸ h⟩)
theorem dt_safe2 (h : Duo v O1 Q1 w d e s t) (x : Nm) : Calls Try.prog 16 #[Pt e, St x] w (DT v O1 Q1 w d e (.int .i64 (safeD t x : Nat)) s t) := by
  obtain ⟨O, ⟨vv, h1⟩, _⟩ := h.right
  exact (rsafe_any h1 x).mono (fun _ _ k => ⟨k.1, k.2, h.no k.2⟩)
end
theorem row_cell {W : World} {pp : Option Go.Addr} {n cc : Nat} {nn : List Nm} (h : RowS W (.slice pp n cc) nn) {j : Nat} {x : Nm} (hj : nn[j]? = some x) : ∃ b, pp = some ⟨b, 0, none⟩ ∧ ∀ W', Fr No W W' → Fr No W W' ∧ W'.cell? ⟨b, j, none⟩ = some (St x) := by
  obtain ⟨p2, c2, ev, hr⟩ := id h
  obtain ⟨b, h1, _⟩ := hr j x hj
  obtain ⟨e1, _, _⟩ : pp = p2 ∧ n = nn.length ∧ cc = c2 := by simpa using ev
  refine ⟨b, e1.trans h1, fun W' F => ⟨F, ?_⟩⟩
  obtain ⟨p3, c3, ev3, hr3⟩ := h.no F
  obtain ⟨b3, h3, h4⟩ := hr3 j x hj
  obtain ⟨e3, _, _⟩ : pp = p3 ∧ n = nn.length ∧ cc = c3 := by simpa using ev3
  have : b = b3 := by
    have := (e1.trans h1).symm.trans (e3.trans h3)
    simpa using this
  rw [this]
  exact h4
set_option maxRecDepth 100000 in
set_option maxHeartbeats 4000000 in
theorem fexact_any {p : Option Go.Addr} {c : Nat} {l : List Op6} (hok : ∀ x ∈ l, okO x ∧ x.data.length ≤ 140737488351232) (w : World) (h : OpsAt w p l) :
    Calls Try.prog 3 #[.slice p l.length c] w (Tells w (.bool true)) := by
  have HC := hide h
  have HOK := hide hok
  clear h hok
  go_enter Try.func3, Try.ntmps3
  go_wp2_with fail
  refine (awake_any names_ok _).mono ?_
  rintro e1 w1 ⟨rfl, F1⟩
  go_wp2_with fail
  refine (ses_new F1).mono ?_
  rintro e2 w2 ⟨d, rfl, H2⟩
  go_wp2_with fail
  refine (rnew_any w2).mono ?_
  rintro e3 w3 ⟨rfl, k2, k3⟩
  have H3 : Duo w No No w3 d w2.heap.size newD newD := duo_start H2 k2 k3
  generalize w2.heap.size = e at *
  clear H2 k2 k3 F1
  go_wp2
  go_loopw [5, 6] (fun al i wr => ∃ (A k : Nat) (s : Dk), al = .int .i64 (A : Int) ∧ i = .int .i64 (k : Int) ∧ A ≤ 4194304 ∧ k ≤ l.length ∧ k ≤ 2000 ∧ s.steps ≤ k ∧ Duo w No No wr d e s s) (fun _ i _ => l.length - (intOf i).toNat)
  case atStart => exact ⟨0, 0, newD, rfl, rfl, by omega, Nat.zero_le _, Nat.zero_le _, Nat.le_refl _, H3⟩
  case round =>
    clear H3
    obtain ⟨A, k, s, rfl, rfl, hA, hk, hk2, hst, H⟩ := hrel
    by_cases hlt : k < l.length ∧ k < 2000
    · obtain ⟨hlt1, hlt2⟩ := hlt
      have hlt3 : (k : Int) < (l.length : Int) := by omega
      have hlt4 : (k : Int) < 2000 := by omega
      obtain ⟨b, o, rfl, hb, hcs⟩ := HC.out k hlt1
      obtain ⟨hop, hdl⟩ := HOK.out _ (List.getElem_mem hlt1)
      generalize l[k] = op at *
      obtain ⟨kind, on, name, data, n, keep⟩ := op
      simp only at hdl hcs
      have SC := hide (fun W => sc_all (W := W) hb hcs)
      have HOP := hide hop
      have HN := hide (show name.length ≤ maxLen from hop.2.2.1)
      clear hcs hb hop
      obtain ⟨_, x0, x1, x2, x3, x4, x5⟩ := SC.out _ (duo_fr H)
      by_cases hbig : 4194304 < A + data.length
      · have hb1 : 4194304 < (A : Int) + (data.length : Int) := by omega
        have HF := hide (duo_fr H)
        go_wp2
        go_ret
        exact ⟨rfl, HF.out⟩
      · have hb1 : ¬ 4194304 < (A : Int) + (data.length : Int) := by omega
        have hA2 : A + data.length ≤ 4194304 := by omega
        clear hbig
        by_cases hon : on = 0
        · subst hon
          obtain ⟨s2, hs2⟩ : ∃ s2, stepD s ⟨kind, 0, name, data, n, keep⟩ = s2 := ⟨_, rfl⟩
          have hst2 : s2.steps ≤ k + 1 := by have := step_le s ⟨kind, 0, name, data, n, keep⟩; rw [hs2] at this; omega
          have HS2 := hide hs2
          have HST2 := hide hst2
          have HST := hide (show s.steps < 4611686018427387904 by omega)
          clear hs2 hst2 hst
          go_upto_region 19 with fail
          go_region_held3 (fun W => Fr No w W ∧ W.cell? ⟨b, o + k * 6, none⟩ = some (.int .i64 kind) ∧ W.cell? ⟨b, o + k * 6 + 1, none⟩ = some (.int .i64 0) ∧ W.cell? ⟨b, o + k * 6 + 2, none⟩ = some (St name) ∧ W.cell? ⟨b, o + k * 6 + 3, none⟩ = some (St data) ∧ W.cell? ⟨b, o + k * 6 + 4, none⟩ = some (.int .i64 n) ∧ W.cell? ⟨b, o + k * 6 + 5, none⟩ = some (.int .i64 keep))
            (first
              | exact SC.out _ ((duo_fr H).andNo (Fr.drew _))
              | exact SC.out _ (duo_fr G10)
              | exact SC.out _ (duo_fr G9)
              | exact SC.out _ (duo_fr G8)
              | exact SC.out _ (duo_fr G7)
              | exact SC.out _ (duo_fr G6)
              | exact SC.out _ (duo_fr G5)
              | exact SC.out _ (duo_fr G4)
              | exact SC.out _ (duo_fr G3)
              | exact SC.out _ (duo_fr G2)
              | exact SC.out _ (duo_fr G1))
            (first
              | (go_at_call 10; refine (right_any (H.no (Fr.drew _)) HST.out HOP.out HS2.out).mono ?_; rintro en w11 ⟨rfl, G1⟩)
              | (go_at_call 11; refine (duo_down1 G1).mono ?_; rintro en w12 ⟨rfl, G2⟩)
              | (go_at_call 12; refine (duo_down2 G2).mono ?_; rintro en w13 ⟨rfl, G3⟩)
              | (go_at_call 13; refine (duo_steps1 G3).mono ?_; rintro en w14 ⟨rfl, G4⟩)
              | (go_at_call 14; refine (duo_steps2 G4).mono ?_; rintro en w15 ⟨rfl, G5⟩)
              | (go_at_call 15; refine (duo_safe1 G5 HN.out).mono ?_; rintro en w16 ⟨rfl, G6⟩)
              | (go_at_call 16; refine (duo_safe2 G6 _).mono ?_; rintro en w17 ⟨rfl, G7⟩)
              | (go_at_call 18; refine (duo_names1 G7).mono ?_; rintro en w18 ⟨r8, rfl, F8, G8, R8⟩)
              | (go_at_call 19; refine (duo_names2 G8).mono ?_; rintro en w19 ⟨r9, rfl, F9, G9, R9⟩)
              | (go_at_call 17; refine (names_any (R8.no F9) R9 (names_len G9.ok1)).mono ?_; rintro en w20 ⟨rfl, F10⟩; have G10 := G9.no F10))
          have HF := hide G10
          clear G1 G2 G3 G4 G5 G6 G7 G8 G9 G10 F8 F9 F10 R8 R9 H x0 x1 x2 x3 x4 x5
          go_wp2
          go_roundw
          case rel => exact ⟨A + data.length, k + 1, s2, by go_num, by go_num, hA2, by omega, by omega, HST2.out, HF.out⟩
          case measure => simp [intOf]; omega
        · have hst2 : s.steps ≤ k + 1 := by omega
          have hon2 : ¬ (on = 0) := hon
          go_upto_region 19 with fail
          go_region_held3 (fun W => Fr No w W ∧ W.cell? ⟨b, o + k * 6, none⟩ = some (.int .i64 kind) ∧ W.cell? ⟨b, o + k * 6 + 1, none⟩ = some (.int .i64 on) ∧ W.cell? ⟨b, o + k * 6 + 2, none⟩ = some (St name) ∧ W.cell? ⟨b, o + k * 6 + 3, none⟩ = some (St data) ∧ W.cell? ⟨b, o + k * 6 + 4, none⟩ = some (.int .i64 n) ∧ W.cell? ⟨b, o + k * 6 + 5, none⟩ = some (.int .i64 keep))
            (first
              | exact SC.out _ ((duo_fr H).andNo (Fr.drew _))
              | exact SC.out _ (duo_fr G10)
              | exact SC.out _ (duo_fr G9)
              | exact SC.out _ (duo_fr G8)
              | exact SC.out _ (duo_fr G7)
              | exact SC.out _ (duo_fr G6)
              | exact SC.out _ (duo_fr G5)
              | exact SC.out _ (duo_fr G4)
              | exact SC.out _ (duo_fr G3)
              | exact SC.out _ (duo_fr G2)
              | exact SC.out _ (duo_fr G1))
            (first
              | (go_at_call 10; refine (right_nil ⟨kind, on, name, data, n, keep⟩ _).mono ?_; rintro en w11 ⟨rfl, F1⟩; have G1 := (H.no (Fr.drew _)).no F1)
              | (go_at_call 11; refine (down_nil _).mono ?_; rintro en w12 ⟨rfl, rfl⟩)
              | (go_at_call 12; refine (rdown_nil _).mono ?_; rintro en w13 ⟨rfl, rfl⟩)
              | (go_at_call 13; refine (steps_nil _).mono ?_; rintro en w14 ⟨rfl, rfl⟩)
              | (go_at_call 14; refine (rsteps_nil _).mono ?_; rintro en w15 ⟨rfl, rfl⟩)
              | (go_at_call 15; refine (safe_nil _ _).mono ?_; rintro en w16 ⟨rfl, rfl⟩)
              | (go_at_call 16; refine (rsafe_nil _ _).mono ?_; rintro en w17 ⟨rfl, F7⟩; have G7 := G1.no F7)
              | (go_at_call 18; refine (dnames_nil _).mono ?_; rintro en w18 ⟨r8, rfl, F8, R8⟩; have G8 := G7.no F8)
              | (go_at_call 19; refine (rnames_nil _).mono ?_; rintro en w19 ⟨r9, rfl, F9, R9⟩; have G9 := G8.no F9)
              | (go_at_call 17; refine (names_any (R8.no F9) R9 (by decide)).mono ?_; rintro en w20 ⟨rfl, F10⟩; have G10 := G9.no F10))
          have HF := hide G10
          clear G1 G7 G8 G9 G10 F7 F8 F9 F10 R8 R9 H x0 x1 x2 x3 x4 x5
          go_wp2
          go_roundw
          case rel => exact ⟨A + data.length, k + 1, s, by go_num, by go_num, hA2, by omega, by omega, hst2, HF.out⟩
          case measure => simp [intOf]; omega
    · have hexit : (¬ (k : Int) < 2000 ∧ (k : Int) < (l.length : Int)) ∨ ¬ (k : Int) < (l.length : Int) := by omega
      clear hst hA
      rcases hexit with ⟨q1, q2⟩ | q1
      all_goals
        go_wp2_with fail
        refine (duo_on1 H).mono ?_
        rintro e4 w4 ⟨rfl, H4⟩
        clear H
        go_wp2_with fail
        refine (duo_on2 H4).mono ?_
        rintro e5 w5 ⟨rfl, H5⟩
        clear H4
        go_wp2_with fail
        refine (duo_names2 H5).mono ?_
        rintro e6 w6 ⟨r6, rfl, _, H6, R6⟩
        clear H5
        have NL := hide (names_len H6.ok2)
        have NM := hide (show ∀ x ∈ names (onD s).fs, x.length ≤ maxLen from fun x hx => by
          obtain ⟨g, hg, rfl⟩ := List.mem_map.1 hx
          have := (H6.ok2.ok g hg).2.2
          unfold maxLen
          omega)
        generalize hnn : names (onD s).fs = nn at *
        have HNN := hide hnn
        clear hnn
        generalize onD s = s3 at *
        obtain ⟨pp, cc, rfl, hrow⟩ := id R6
        have HR6 := hide R6
        clear R6 hrow
        go_wp2
        go_loopw [10] (fun i wr => ∃ (j : Nat), i = .int .i64 (j : Int) ∧ j ≤ nn.length ∧ Duo w No No wr d e s3 s3 ∧ Fr No w6 wr) (fun i _ => nn.length - (intOf i).toNat)
        case atStart => exact ⟨0, rfl, Nat.zero_le _, H6, Fr.refl _ _⟩
        case round =>
          clear H6
          obtain ⟨j, rfl, hj, H7, F7⟩ := hrel
          by_cases hlt2 : j < nn.length
          · have hlt3 : (j : Int) < (nn.length : Int) := by omega
            obtain ⟨b, rfl, RK0⟩ := row_cell HR6.out (List.getElem?_eq_getElem hlt2)
            have HX := hide (NM.out _ (List.getElem_mem hlt2))
            generalize nn[j] = x at *
            have RK := hide RK0
            clear RK0
            cases hrd : readD s3 x with
            | mk u cd =>
            have HRD := hide hrd
            clear hrd
            obtain ⟨_, y0⟩ := RK.out _ F7
            go_wp2_with fail
            refine (dt_read1 H7 HX.out HRD.out).mono ?_
            rintro e8 w8 ⟨rfl, F8, H8⟩
            have F8 := F7.andNo F8
            clear y0
            obtain ⟨_, y0⟩ := RK.out _ F8
            go_wp2_with fail
            refine (dt_read2 H8 HX.out HRD.out).mono ?_
            rintro e9 w9 ⟨rfl, F9, H9⟩
            have F9 := F8.andNo F9
            clear y0
            obtain ⟨_, y0⟩ := RK.out _ F9
            go_upto_region 29 with fail
            go_region_held3 (fun W => Fr No w6 W ∧ W.cell? ⟨b, j, none⟩ = some (St x))
              (first
                | exact RK.out _ (F9.andNo (Fr.drew _))
                | exact RK.out _ (((F9.andNo (Fr.drew _)).andNo F10).andNo F11)
                | exact RK.out _ ((F9.andNo (Fr.drew _)).andNo F10))
              (first
                | (go_at_call 15; refine (dt_safe1 (H9.no (Fr.drew _)) HX.out).mono ?_; rintro en w10 ⟨rfl, F10, H10⟩)
                | (go_at_call 16; refine (dt_safe2 H10 _).mono ?_; rintro en w11 ⟨rfl, F11, H11⟩))
            have HF := hide (((F9.andNo (Fr.drew _)).andNo F10).andNo F11)
            have HH := hide H11
            clear H7 H8 H9 H10 H11 F7 F8 F9 F10 F11 y0
            have hnl : nn.length < 1099511627776 := NL.out
            go_wp2
            go_roundw
            case rel => exact ⟨j + 1, by go_num, by omega, HH.out, HF.out⟩
            case measure => simp [intOf]; omega
          · have hlt3 : ¬ (j : Int) < (nn.length : Int) := by omega
            go_wp2_with fail
            refine (duo_names1 H7).mono ?_
            rintro e8 w8 ⟨r8, rfl, F8, H8, R8⟩
            rw [HNN.out] at R8
            go_wp2_with fail
            refine (names_any R8 ((HR6.out.no F7).no F8) NL.out).mono ?_
            rintro e9 w9 ⟨rfl, F9⟩
            go_wp2
            go_ret
            exact ⟨rfl, duo_fr (H8.no F9)⟩
end Go.Proofs.Ytplnfbhjplbpiaa
