/-
  The contract of the document's own Nth. Conditions: the words are words of 64 bits; a slice has at most 1000000 ranges.
-/
import Derived.Test.YtfmhpnendcikoaaGreatSpanFc
namespace Go.Proofs.YtfmhpnendcikoaaGreat
open Go.RowKit Go.Joins

theorem nth_step {m : Nat} {x : Rg} (fm : Fits m) (h : ¬ m ≤ subS x.2 x.1) : subS (subS m (subS x.2 x.1)) 1 = subS m (sizeR x) := by
  have fd := fits_subS x.2 x.1
  unfold sizeR
  generalize subS x.2 x.1 = d at *
  unfold subS addS Fits at *
  omega
/-- the blocks of Nth: the number's and the result's -/
def HNt (w : World) (m : Nat) (W : World) : Prop := Below w.heap.size w W ∧ Two w.heap.size m W ∧ Two (w.heap.size + 1) 0 W
theorem HNt.step {w : World} {m : Nat} {W w2 : World} (h : HNt w m W) (hb : Below W.heap.size W w2) : HNt w m w2 := ⟨chain h.1 hb, h.2.1.step hb, h.2.2.step hb⟩
theorem HNt.drew {w : World} {m : Nat} {W : World} (h : HNt w m W) : HNt w m W.drew := h.step (below_drew _)
theorem HNt.put {w : World} {m : Nat} {W : World} (h : HNt w m W) (y : Nat) : HNt w y ((W.setCell ⟨w.heap.size, 0, none⟩ (.int .u64 (hi y : Nat))).setCell ⟨w.heap.size, 1, none⟩ (.int .u64 (lo y : Nat))) :=
  ⟨(h.1.setCell (by dsimp only; omega) _).setCell (by dsimp only; omega) _, h.2.1.put y, (h.2.2.set (by dsimp only; omega) _).set (by dsimp only; omega) _⟩
theorem hnt_new (w : World) (n : Nat) : HNt w n ((w.alloc (.cells #[.int .u64 (hi n : Nat), .int .u64 (lo n : Nat)] 31)).alloc (.cells #[.int .u64 0, .int .u64 0] 31)) := by
  have T0 := two_new w n 31
  have T1 := two_zero (w.alloc (.cells #[.int .u64 (hi n : Nat), .int .u64 (lo n : Nat)] 31)) 31
  rw [World.size_alloc] at T1
  exact ⟨chain (below_alloc _ _) (below_alloc _ _), T0.step (below_alloc _ _), T1⟩
theorem use {P G : Prop} (h : P) (k : P → G) : G := k h
/-- a box that is made behind the call, or ahead of it -/
theorem close_late {w wr w2 : World} {m : Nat} (d : Nat) (HH : HNt w m wr) (hb : Below wr.heap.size wr w2) : HNt w m (w2.alloc (.cells #[.int .u64 (hi d : Nat), .int .u64 (lo d : Nat)] 31)) ∧ Two w2.heap.size d (w2.alloc (.cells #[.int .u64 (hi d : Nat), .int .u64 (lo d : Nat)] 31)) ∧ w.heap.size + 1 < w2.heap.size :=
  ⟨(HH.step hb).step (below_alloc _ _), two_new _ _ _, Nat.lt_of_lt_of_le HH.2.2.1 hb.size⟩
theorem close_early {w wr w2 : World} {m : Nat} (d : Nat) (HH : HNt w m wr) (hb : Below (wr.alloc (.cells #[.int .u64 0, .int .u64 0] 31)).heap.size (wr.alloc (.cells #[.int .u64 0, .int .u64 0] 31)) w2) :
    HNt w m ((w2.setCell ⟨wr.heap.size, 0, none⟩ (.int .u64 (hi d : Nat))).setCell ⟨wr.heap.size, 1, none⟩ (.int .u64 (lo d : Nat))) ∧ Two wr.heap.size d ((w2.setCell ⟨wr.heap.size, 0, none⟩ (.int .u64 (hi d : Nat))).setCell ⟨wr.heap.size, 1, none⟩ (.int .u64 (lo d : Nat))) ∧ w.heap.size + 1 < wr.heap.size := by
  have H2 := (HH.step (below_alloc wr (.cells #[.int .u64 0, .int .u64 0] 31))).step hb
  have h1 := HH.2.2.1
  exact ⟨⟨(H2.1.setCell (by dsimp only; omega) _).setCell (by dsimp only; omega) _, (H2.2.1.set (by dsimp only; omega) _).set (by dsimp only; omega) _, (H2.2.2.set (by dsimp only; omega) _).set (by dsimp only; omega) _⟩, ((two_zero wr _).step hb).put d, h1⟩
set_option maxRecDepth 100000 in
set_option maxHeartbeats 2000000 in
theorem rnth_any {v : Value} {l : List Rg} {n : Nat} (hf : FitL l) (fn : Fits n) (hl : l.length ≤ 1000000) (w : World) (hv : Lst v l w) : Calls Tryz.prog 31 #[v, A n] w (Gives (.tuple #[A (nthV l n), .bool (nthO l n)]) w) := by
  have S := hide (fun W H => rsound_any (v := v) hf hl W H)
  have H0 := hnt_new w n
  have V0 := hv.step H0.1
  obtain ⟨p, c, rfl, hold⟩ := lst_old hv
  cases e : soundL l with
  | false =>
    have R := hide (nth_unsound n e)
    rw [e] at S
    clear e hv hold
    go_enter Tryz.func31, Tryz.ntmps31
    go_wp2_with fail
    refine (S.out _ V0).mono ?_
    rintro e w1 ⟨rfl, hb1⟩
    have H1 := H0.step hb1
    obtain ⟨HB, ⟨t0, t1, t2, t3, t4⟩, u0, u1, u2, u3, u4⟩ := id H1
    clear H0 hb1 V0
    go_wp2
    refine bodyPost_ret (v := .tuple #[A 0, .bool false]) (by simp [results, Tryz.results31, go_sem, u1, u2, hi, lo]) rfl ⟨by rw [R.out.1, R.out.2], ?_⟩
    have hzB := HB.size
    repeat' (first | (with_reducible exact HB) | (with_reducible apply Below.drew) | (with_reducible apply Below.alloc) | (with_reducible apply Below.setCell))
    all_goals first | omega | (dsimp only; omega) | ((try simp); omega)
  | true =>
    have HS := hide e
    rw [e] at S
    clear e hv
    go_enter Tryz.func31, Tryz.ntmps31
    go_wp2_with fail
    refine (S.out _ V0).mono ?_
    rintro e w1 ⟨rfl, hb1⟩
    have H1 := H0.step hb1
    clear H0 hb1 V0
    go_wp2_with fail
    go_loopw [6] (fun i wr => ∃ (k m : Nat), k ≤ l.length ∧ i = .int .i64 (k : Nat) ∧ HNt w m wr ∧ Fits m ∧ Hid (nthF (l.drop k) m = nthF l n)) (fun i _ => l.length - (intOf i).toNat)
    case atStart => exact ⟨0, n, Nat.zero_le _, rfl, H1, fn, hide rfl⟩
    case round =>
      obtain ⟨k, m, hk, rfl, HH, fm, E⟩ := hrel
      clear H1
      by_cases hlt : k < l.length
      · obtain ⟨x, hx⟩ := get_some hlt
        have fx := fit_at hf hx
        obtain ⟨b, o, rfl, hbb, x1, x2, x3, x4⟩ := (hold.keep HH.1) k x hx
        have RX := hide (fun W (H : Below w.heap.size w W) => row_get (hold.keep H) hx)
        have SB := hide (fun W => rsub_any fx.2 fx.1 W)
        have fd := fits_subS x.2 x.1
        have LE := hide (fun W => rle_any fm fd W)
        have AD := hide (fun W => radd_any fx.1 fm W)
        have NC := hide (show nthF l n = if m ≤ subS x.2 x.1 then some (addS x.1 m) else nthF (l.drop (k + 1)) (subS m (sizeR x)) by rw [← E.out, drop_at' hx, nthF_cons])
        have NS := hide (fun h => nth_step (x := x) fm h)
        have S2 := hide (fun W => rsub_any fm fd W)
        have AH := hide (fun W => rahead_any (fits_subS m (subS x.2 x.1)) W)
        have KL : (k : Int) < (l.length : Int) := by omega
        have hbw : b < wr.heap.size := Nat.lt_of_lt_of_le hbb HH.1.size
        clear hx E fx
        generalize subS x.2 x.1 = d at *
        obtain ⟨_, ⟨n0, n1, n2, n3, n4⟩, _⟩ := id HH
        go_upto_region 7 with fail
        go_cut [7] (fun s7 V => ∃ g, s7 = .pointer (some ⟨g, 0, none⟩) ∧ HNt w m V ∧ Two g d V ∧ w.heap.size + 1 < g)
        case first =>
          go_wp2_with fail
          go_region_with ((go_at_call 59; refine (SB.out _).mono ?_; rintro e w2 ⟨rfl, hb2⟩; first | (refine use (show Two wr.heap.size 0 w2 from (two_zero wr 31).step hb2) ?_; rintro ⟨y0, y1, y2, y3, y4⟩) | (refine use (show Two wr.heap.size 0 w2 from (two_zero wr.drew 31).step hb2) ?_; rintro ⟨y0, y1, y2, y3, y4⟩) | (refine use (show Two wr.heap.size 0 w2 from ((two_zero wr 31).step (below_drew _)).step hb2) ?_; rintro ⟨y0, y1, y2, y3, y4⟩) | skip))
          all_goals
            first
              | (refine use (close_late d HH hb2) ?_; rintro ⟨HV, TV, GV⟩; generalize w2.alloc (.cells #[.int .u64 (hi d : Nat), .int .u64 (lo d : Nat)] 31) = V at HV TV ⊢; generalize w2.heap.size = g at TV GV ⊢)
              | (refine use (close_late d HH.drew hb2) ?_; rintro ⟨HV, TV, GV⟩; generalize w2.alloc (.cells #[.int .u64 (hi d : Nat), .int .u64 (lo d : Nat)] 31) = V at HV TV ⊢; generalize w2.heap.size = g at TV GV ⊢)
              | (refine use (close_early d HH hb2) ?_; rintro ⟨HV, TV, GV⟩; generalize (w2.setCell ⟨wr.heap.size, 0, none⟩ (.int .u64 (hi d : Nat))).setCell ⟨wr.heap.size, 1, none⟩ (.int .u64 (lo d : Nat)) = V at HV TV ⊢; generalize wr.heap.size = g at TV GV ⊢)
              | (refine use (close_early d HH (chain (below_drew _) hb2)) ?_; rintro ⟨HV, TV, GV⟩; generalize (w2.setCell ⟨wr.heap.size, 0, none⟩ (.int .u64 (hi d : Nat))).setCell ⟨wr.heap.size, 1, none⟩ (.int .u64 (lo d : Nat)) = V at HV TV ⊢; generalize wr.heap.size = g at TV GV ⊢)
              | (refine use (close_early d HH.drew hb2) ?_; rintro ⟨HV, TV, GV⟩; generalize (w2.setCell ⟨wr.heap.size, 0, none⟩ (.int .u64 (hi d : Nat))).setCell ⟨wr.heap.size, 1, none⟩ (.int .u64 (lo d : Nat)) = V at HV TV ⊢; generalize wr.heap.size = g at TV GV ⊢)
          all_goals
            go_wp2
            go_meet
            exact ⟨g, rfl, HV, TV, GV⟩
        case rest =>
          obtain ⟨g, rfl, HV, TV, GV⟩ := hcut
          clear x1 x2 x3 x4 n0 n1 n2 n3 n4
          obtain ⟨g0, g1, g2, _⟩ := id TV
          obtain ⟨_, ⟨n0, n1, n2, n3, n4⟩, _⟩ := id HV
          by_cases h : m ≤ d
          · have NV := hide (nth_some HS.out (by rw [NC.out, if_pos h]))
            have LE := hide (fun W => via (LE.out W) (v' := .bool true) (by rw [decide_eq_true h]))
            clear h
            go_wp2_with fail
            refine (LE.out _).mono ?_
            rintro e w3 ⟨rfl, hb3⟩
            have H3 := HV.step hb3
            have hb3w : b < w3.heap.size := Nat.lt_of_lt_of_le hbb H3.1.size
            clear g0 g1 g2 n0 n1 n2 n3 n4 HV TV GV hb3 hbw
            obtain ⟨x1, x2, x3, x4⟩ := RX.out w3 H3.1
            obtain ⟨_, ⟨n0, n1, n2, n3, n4⟩, _⟩ := id H3
            generalize addS x.1 m = r at *
            generalize addO x.1 m = ov at *
            go_upto_region 9 with fail
            go_cut [9] (fun s9 V => ∃ g, s9 = .pointer (some ⟨g, 0, none⟩) ∧ HNt w m V ∧ Two g r V ∧ w.heap.size + 1 < g)
            case first =>
              go_wp2_with fail
              go_region_with ((go_at_call 53; refine (AD.out _).mono ?_; rintro e w2 ⟨rfl, hb2⟩; first | (refine use (show Two w3.heap.size 0 w2 from (two_zero w3 31).step hb2) ?_; rintro ⟨y0, y1, y2, y3, y4⟩) | (refine use (show Two w3.heap.size 0 w2 from (two_zero w3.drew 31).step hb2) ?_; rintro ⟨y0, y1, y2, y3, y4⟩) | (refine use (show Two w3.heap.size 0 w2 from ((two_zero w3 31).step (below_drew _)).step hb2) ?_; rintro ⟨y0, y1, y2, y3, y4⟩) | skip))
              all_goals
                first
              | (refine use (close_late r H3 hb2) ?_; rintro ⟨HV, TV, GV⟩; generalize w2.alloc (.cells #[.int .u64 (hi r : Nat), .int .u64 (lo r : Nat)] 31) = V at HV TV ⊢; generalize w2.heap.size = g at TV GV ⊢)
              | (refine use (close_late r H3.drew hb2) ?_; rintro ⟨HV, TV, GV⟩; generalize w2.alloc (.cells #[.int .u64 (hi r : Nat), .int .u64 (lo r : Nat)] 31) = V at HV TV ⊢; generalize w2.heap.size = g at TV GV ⊢)
              | (refine use (close_early r H3 hb2) ?_; rintro ⟨HV, TV, GV⟩; generalize (w2.setCell ⟨w3.heap.size, 0, none⟩ (.int .u64 (hi r : Nat))).setCell ⟨w3.heap.size, 1, none⟩ (.int .u64 (lo r : Nat)) = V at HV TV ⊢; generalize w3.heap.size = g at TV GV ⊢)
              | (refine use (close_early r H3 (chain (below_drew _) hb2)) ?_; rintro ⟨HV, TV, GV⟩; generalize (w2.setCell ⟨w3.heap.size, 0, none⟩ (.int .u64 (hi r : Nat))).setCell ⟨w3.heap.size, 1, none⟩ (.int .u64 (lo r : Nat)) = V at HV TV ⊢; generalize w3.heap.size = g at TV GV ⊢)
              | (refine use (close_early r H3.drew hb2) ?_; rintro ⟨HV, TV, GV⟩; generalize (w2.setCell ⟨w3.heap.size, 0, none⟩ (.int .u64 (hi r : Nat))).setCell ⟨w3.heap.size, 1, none⟩ (.int .u64 (lo r : Nat)) = V at HV TV ⊢; generalize w3.heap.size = g at TV GV ⊢)
              all_goals
                go_wp2
                go_meet
                exact ⟨g, rfl, HV, TV, GV⟩
            case rest =>
              obtain ⟨g, rfl, HV, TV, GV⟩ := hcut
              obtain ⟨HB, ⟨t0, t1, t2, t3, t4⟩, u0, u1, u2, u3, u4⟩ := id HV
              obtain ⟨g0, g1, g2, _⟩ := id TV
              go_wp2
              refine bodyPost_ret (v := .tuple #[A r, .bool true]) (by simp [results, Tryz.results31, go_sem, u1, u2]) rfl ⟨by rw [NV.out.1, NV.out.2], ?_⟩
              have hzB := HB.size
              repeat' (first | (with_reducible exact HB) | (with_reducible apply Below.drew) | (with_reducible apply Below.alloc) | (with_reducible apply Below.setCell))
              all_goals first | omega | (dsimp only; omega) | ((try simp); omega)
          · have NV := hide (show nthF (l.drop (k + 1)) (subS (subS m d) 1) = nthF l n by rw [NC.out, if_neg h, NS.out h])
            have LE := hide (fun W => via (LE.out W) (v' := .bool false) (by rw [decide_eq_false h]))
            have fe := fits_subS (subS m d) 1
            clear h
            generalize subS (subS m d) 1 = q at *
            generalize subS m d = r at *
            generalize subO m d = o1 at *
            generalize subO r 1 = o2 at *
            go_wp2_with fail
            refine (LE.out _).mono ?_
            rintro e w3 ⟨rfl, hb3⟩
            have H3 := HV.step hb3
            have T3 := TV.step hb3
            clear g0 g1 g2 n0 n1 n2 n3 n4 HV TV GV hb3
            obtain ⟨_, ⟨n0, n1, n2, n3, n4⟩, _⟩ := id H3
            obtain ⟨g0, g1, g2, _⟩ := id T3
            go_wp2_with fail
            refine (S2.out _).mono ?_
            rintro e w4 ⟨rfl, hb4⟩
            have H4 := H3.step hb4
            have H5 := H4.put r
            clear g0 g1 g2 n0 n1 n2 n3 n4 H3 T3 hb4
            obtain ⟨_, ⟨n0, n1, n2, n3, n4⟩, _⟩ := id H4
            go_wp2_with fail
            clear n0 n1 n2 n3 n4 H4
            generalize (w4.setCell ⟨w.heap.size, 0, none⟩ (.int .u64 (hi r : Nat))).setCell ⟨w.heap.size, 1, none⟩ (.int .u64 (lo r : Nat)) = w5 at *
            refine (AH.out _).mono ?_
            rintro e w6 ⟨rfl, hb6⟩
            have H6 := H5.step hb6
            have H7 := H6.put q
            obtain ⟨_, ⟨n0, n1, n2, n3, n4⟩, _⟩ := id H6
            clear H5 hb6
            go_wp2
            go_roundw
            case rel => exact ⟨k + 1, q, hlt, by go_num, H7, fe, NV⟩
            case measure => simp [intOf]; omega
      · have NN := hide (nth_none (show nthF l n = none by rw [← E.out, List.drop_of_length_le (by omega), nthF_nil]))
        obtain ⟨HB, ⟨t0, t1, t2, t3, t4⟩, u0, u1, u2, u3, u4⟩ := id HH
        go_wp2
        refine bodyPost_ret (v := .tuple #[A 0, .bool false]) (by simp [results, Tryz.results31, go_sem, u1, u2, hi, lo]) rfl ⟨by rw [NN.out.1, NN.out.2], ?_⟩
        have hzB := HB.size
        repeat' (first | (with_reducible exact HB) | (with_reducible apply Below.drew) | (with_reducible apply Below.alloc) | (with_reducible apply Below.setCell))
        all_goals first | omega | (dsimp only; omega) | ((try simp); omega)
end Go.Proofs.YtfmhpnendcikoaaGreat
