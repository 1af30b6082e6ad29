/-
  The contract of the document's own Count. Conditions: the words are words of 64 bits; a slice has at most 1000000 ranges.
-/
import Derived.Test.YtfmhpnendcikoaaGreatSpanFs
import Derived.Test.YtfmhpnendcikoaaGreatSpanLm
namespace Go.Proofs.YtfmhpnendcikoaaGreat
open Go.RowKit Go.Joins

theorem cnt_two {x y : Rg} {r : List Rg} (hs : Snd (x :: y :: r)) (hf : FitL (x :: y :: r)) : cntL (x :: y :: r) < 340282366920938463463374607431768211456 := by
  obtain ⟨h1, h2, h3⟩ := hs
  have ft : FitL (y :: r) := fun z hz => hf z (List.mem_cons_of_mem _ hz)
  have hy := h2 y (List.mem_cons_self ..)
  have fy := (ft y (List.mem_cons_self ..)).1
  have hb := cnt_bound (b := x.2 + 2) h3 ft (by unfold Fits at fy; omega) h2
  have e : cntL (x :: y :: r) = (x.2 + 1 - x.1) + cntL (y :: r) := rfl
  rw [e]
  omega
theorem one_all {l : List Rg} (hs : soundL l = true) (hf : FitL l) : cntO l = (decide (l.length = 1) && decide (totS l 0 = 0)) := by
  have sn := sound_snd.1 hs
  unfold cntO
  rw [hs, Bool.true_and]
  match l, sn, hf with
  | [], _, _ => rfl
  | [x], _, _ => rfl
  | x :: y :: r, sn, hf =>
    have h1 := cnt_two sn hf
    have h2 := cnt_pos sn (by simp)
    have h3 : ¬ totS (x :: y :: r) 0 = 0 := by rw [tot_cnt sn hf, Nat.mod_eq_of_lt h1]; omega
    rw [decide_eq_false h3, Bool.and_false, Bool.and_false]
theorem tot_next {l : List Rg} {k : Nat} {x : Rg} (h : l[k]? = some x) : totS (l.take (k + 1)) 0 = addS (totS (l.take k) 0) (sizeR x) := by
  rw [List.take_add_one, h]
  exact tot_snoc _ _ _
/-- the blocks of Count: the result's and the number's -/
def HCt (w : World) (m : Nat) (W : World) : Prop := Below w.heap.size w W ∧ Two w.heap.size 0 W ∧ Two (w.heap.size + 1) m W
theorem HCt.step {w : World} {m : Nat} {W w2 : World} (h : HCt w m W) (hb : Below W.heap.size W w2) : HCt w m w2 := ⟨chain h.1 hb, h.2.1.step hb, h.2.2.step hb⟩
theorem HCt.drew {w : World} {m : Nat} {W : World} (h : HCt w m W) : HCt w m W.drew := h.step (below_drew _)
theorem HCt.put {w : World} {m : Nat} {W : World} (h : HCt w m W) (y : Nat) : HCt w y ((W.setCell ⟨w.heap.size + 1, 0, none⟩ (.int .u64 (hi y : Nat))).setCell ⟨w.heap.size + 1, 1, none⟩ (.int .u64 (lo y : Nat))) :=
  ⟨(h.1.setCell (by dsimp only; omega) _).setCell (by dsimp only; omega) _, (h.2.1.set (by dsimp only; omega) _).set (by dsimp only; omega) _, h.2.2.put y⟩
theorem hct_new (w : World) : HCt w 0 ((w.alloc (.cells #[.int .u64 0, .int .u64 0] 31)).alloc (.cells #[.int .u64 0, .int .u64 0] 31)) := by
  have T0 := two_zero w 31
  have T1 := two_zero (w.alloc (.cells #[.int .u64 0, .int .u64 0] 31)) 31
  rw [World.size_alloc] at T1
  exact ⟨chain (below_alloc _ _) (below_alloc _ _), T0.step (below_alloc _ _), T1⟩
set_option maxRecDepth 100000 in
set_option maxHeartbeats 2000000 in
theorem rcount_any {v : Value} {l : List Rg} (hf : FitL l) (hl : l.length ≤ 1000000) (w : World) (hv : Lst v l w) : Calls Tryz.prog 29 #[v] w (Gives (.tuple #[A (cntV l), .bool (cntO l)]) w) := by
  have S := hide (fun W H => rsound_any (v := v) hf hl W H)
  have H0 := hct_new w
  have V0 := hv.step H0.1
  obtain ⟨p, c, rfl, hold⟩ := lst_old hv
  cases e : soundL l with
  | false =>
    have R := hide (show cntV l = 0 ∧ cntO l = false by unfold cntV cntO; rw [e]; exact ⟨rfl, rfl⟩)
    rw [e] at S
    clear e hv hold
    go_enter Tryz.func29, Tryz.ntmps29
    go_wp2_with fail
    refine (S.out _ V0).mono ?_
    rintro e w1 ⟨rfl, hb1⟩
    have H1 := H0.step hb1
    obtain ⟨HB, ⟨t0, t1, t2, t3, t4⟩, u0, u1, u2, u3, u4⟩ := id H1
    clear H0 hb1 V0
    go_wp2
    refine bodyPost_ret (v := .tuple #[A 0, .bool false]) (by simp [results, Tryz.results29, go_sem, t1, t2, hi, lo]) rfl ⟨by rw [R.out.1, R.out.2], ?_⟩
    have hzB := HB.size
    repeat' (first | (with_reducible exact HB) | (with_reducible apply Below.drew) | (with_reducible apply Below.alloc) | (with_reducible apply Below.setCell))
    all_goals first | omega | (dsimp only; omega) | ((try simp); omega)
  | true =>
    have R := hide (show cntV l = totS l 0 by unfold cntV; rw [e]; rfl)
    have RO := hide (one_all e hf)
    rw [e] at S
    clear e hv
    go_enter Tryz.func29, Tryz.ntmps29
    go_wp2_with fail
    refine (S.out _ V0).mono ?_
    rintro e w1 ⟨rfl, hb1⟩
    have H1 := H0.step hb1
    clear H0 hb1 V0
    go_wp2_with fail
    go_loopw [5] (fun i wr => ∃ (k m : Nat), k ≤ l.length ∧ i = .int .i64 (k : Nat) ∧ HCt w m wr ∧ Hid (m = totS (l.take k) 0) ∧ Fits m) (fun i _ => l.length - (intOf i).toNat)
    case atStart => exact ⟨0, 0, Nat.zero_le _, rfl, H1, hide rfl, by unfold Fits; omega⟩
    case round =>
      obtain ⟨k, m, hk, rfl, HH, E, fm⟩ := hrel
      clear H1
      by_cases hlt : k < l.length
      · obtain ⟨x, hx⟩ := get_some hlt
        have fx := fit_at hf hx
        obtain ⟨b, o, rfl, hbb, x1, x2, x3, x4⟩ := (hold.keep HH.1) k x hx
        have SZ := hide (fun W => rsize_any fx W)
        have fz : Fits (sizeR x) := fits_addS _ _
        have AD := hide (fun W => radd_any fm fz W)
        have NX := hide (show addS m (sizeR x) = totS (l.take (k + 1)) 0 by rw [tot_next hx, E.out])
        have fn := fits_addS m (sizeR x)
        have KL : (k : Int) < (l.length : Int) := by omega
        clear hx fx fz E
        generalize sizeR x = z at *
        generalize hn : addS m z = n at *
        generalize addO m z = ov at *
        clear hn
        obtain ⟨_, _, t0, t1, t2, t3, t4⟩ := id HH
        go_wp2_with fail
        go_region_with ((first
          | (go_at_call 54; refine (SZ.out _).mono ?_; rintro e w2 ⟨rfl, hb2⟩; have H2 : HCt w m w2 := (by first | exact HH.step hb2 | exact HH.drew.step hb2); obtain ⟨_, _, s0, s1, s2, s3, s4⟩ := id H2)
          | (go_at_call 53; refine (AD.out _).mono ?_; rintro e w3 ⟨rfl, hb3⟩; have H3 := HCt.step H2 hb3; obtain ⟨_, _, r0, r1, r2, r3, r4⟩ := id H3)))
        all_goals
          have H4 := H3.put n
          go_wp2
          go_roundw
          case rel => exact ⟨k + 1, n, hlt, by go_num, H4, NX, fn⟩
          case measure => simp [intOf]; omega
      · have E2 := hide (show m = totS l 0 by rw [E.out, List.take_of_length_le (by omega)])
        have WZ := hide (words_zero m)
        have LO : ((l.length : Int) == 1) = decide (l.length = 1) := by rw [Bool.eq_iff_iff]; simp; omega
        have fin : ∀ b, ((((l.length : Int) == 1)) && (((hi m : Nat) : Int) == 0 && ((lo m : Nat) : Int) == 0)) = b → Ending.returned (.tuple #[A m, .bool b]) = .returned (.tuple #[A (cntV l), .bool (cntO l)]) := by
          intro b hb
          rw [R.out, RO.out, ← E2.out, ← WZ.out, ← LO, hb]
        have F := hide fin
        have HB2 := HH.1
        obtain ⟨_, ⟨t0, t1, t2, t3, t4⟩, u0, u1, u2, u3, u4⟩ := id HH
        clear fin LO WZ E2 R RO hold E
        cases P0 : ((l.length : Int) == 1) with
        | true =>
          by_cases Hh : hi m = 0
          · by_cases Hl : lo m = 0
            · have F1 := hide (F.out true (by rw [P0, Hh, Hl]; rfl))
              go_wp2_with fail
              go_region
              all_goals
                go_wp2
                refine bodyPost_ret (v := .tuple #[A m, .bool true]) (by simp [results, Tryz.results29, go_sem, Hh, Hl, t1, t2]) rfl ⟨F1.out, ?_⟩
                have hzB := HB2.size
                repeat' (first | (with_reducible exact HB2) | (with_reducible apply Below.drew) | (with_reducible apply Below.alloc) | (with_reducible apply Below.setCell))
                all_goals first | omega | (dsimp only; omega) | ((try simp); omega)
            · have F1 := hide (F.out false (by simp [Hl]))
              go_wp2_with fail
              go_region
              all_goals
                go_wp2
                refine bodyPost_ret (v := .tuple #[A m, .bool false]) (by simp [results, Tryz.results29, go_sem, Hh, t1, t2]) rfl ⟨F1.out, ?_⟩
                have hzB := HB2.size
                repeat' (first | (with_reducible exact HB2) | (with_reducible apply Below.drew) | (with_reducible apply Below.alloc) | (with_reducible apply Below.setCell))
                all_goals first | omega | (dsimp only; omega) | ((try simp); omega)
          · have F1 := hide (F.out false (by simp [Hh]))
            go_wp2_with fail
            go_region
            all_goals
              go_wp2
              refine bodyPost_ret (v := .tuple #[A m, .bool false]) (by simp [results, Tryz.results29, go_sem, t1, t2]) rfl ⟨F1.out, ?_⟩
              have hzB := HB2.size
              repeat' (first | (with_reducible exact HB2) | (with_reducible apply Below.drew) | (with_reducible apply Below.alloc) | (with_reducible apply Below.setCell))
              all_goals first | omega | (dsimp only; omega) | ((try simp); omega)
        | false =>
          have F1 := hide (F.out false (by rw [P0]; rfl))
          go_wp2_with fail
          go_region
          all_goals
            go_wp2
            refine bodyPost_ret (v := .tuple #[A m, .bool false]) (by simp [results, Tryz.results29, go_sem, t1, t2]) rfl ⟨F1.out, ?_⟩
            have hzB := HB2.size
            repeat' (first | (with_reducible exact HB2) | (with_reducible apply Below.drew) | (with_reducible apply Below.alloc) | (with_reducible apply Below.setCell))
            all_goals first | omega | (dsimp only; omega) | ((try simp); omega)
end Go.Proofs.YtfmhpnendcikoaaGreat
