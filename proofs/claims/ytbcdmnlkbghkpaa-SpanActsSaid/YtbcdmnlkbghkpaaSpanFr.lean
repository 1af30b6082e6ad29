/-
  The contract of the document's own Rank. Conditions: the words are words of 64 bits; a slice has at most 1000000 ranges.
-/
import Derived.Test.YtbcdmnlkbghkpaaSpanFn
namespace Go.Proofs.Ytbcdmnlkbghkpaa
open Go.RowKit Go.Joins

/-- what is counted of a range, below an address -/
def cutR (x : Rg) (a : Nat) : Rg := (x.1, if a ≤ x.2 then a - 1 else x.2)
def rkF (l : List Rg) (a : Nat) : Nat → Nat := l.foldr (fun x k m => if a ≤ x.1 then m else k (addS m (sizeR (cutR x a)))) id
theorem rkF_nil (a m : Nat) : rkF [] a m = m := by unfold rkF; rw [List.foldr_nil]; rfl
theorem rkF_cons (x : Rg) (r : List Rg) (a m : Nat) : rkF (x :: r) a m = if a ≤ x.1 then m else rkF r a (addS m (sizeR (cutR x a))) := by unfold rkF; rw [List.foldr_cons]
theorem cut_fit {x : Rg} {a : Nat} (fx : FitR x) (fa : Fits a) : FitR (cutR x a) := by
  refine ⟨fx.1, ?_⟩
  unfold cutR
  have := fx.2
  unfold Fits at *
  simp only
  split <;> omega
theorem cut_size {x : Rg} {a : Nat} (fx : FitR x) (fa : Fits a) (hx : x.1 ≤ x.2) (h : ¬ a ≤ x.1) : sizeR (cutR x a) = (min (x.2 + 1) a - x.1) % 340282366920938463463374607431768211456 := by
  rw [size_eq (cut_fit fx fa) (by unfold cutR; simp only; split <;> omega)]
  unfold cutR
  simp only
  congr 1
  split <;> omega
theorem rk_bel : ∀ {l : List Rg} {a m : Nat}, Snd l → FitL l → Fits a → m < 340282366920938463463374607431768211456 → rkF l a m = (m + bel a l) % 340282366920938463463374607431768211456
  | [], a, m, _, _, _, hm => by
    rw [rkF_nil, show bel a [] = 0 from rfl, Nat.add_zero, Nat.mod_eq_of_lt hm]
  | x :: r, a, m, hs, hf, fa, hm => by
    obtain ⟨h1, h2, h3⟩ := hs
    have fx := hf x (List.mem_cons_self ..)
    have fr : FitL r := fun y hy => hf y (List.mem_cons_of_mem _ hy)
    rw [rkF_cons]
    by_cases h : a ≤ x.1
    · rw [if_pos h, bel_zero (l := x :: r) (fun y hy => by
        rcases List.mem_cons.1 hy with rfl | hy
        · exact h
        · have := h2 y hy; omega), Nat.add_zero, Nat.mod_eq_of_lt hm]
    · rw [if_neg h, rk_bel h3 fr fa (by unfold addS; omega), cut_size fx fa h1 h]
      have e : bel a (x :: r) = (min (x.2 + 1) a - x.1) + bel a r := rfl
      rw [e]
      unfold addS
      omega
theorem rk_rank {l : List Rg} {a : Nat} (hs : soundL l = true) (hf : FitL l) (fa : Fits a) : rkF l a 0 = rankS l a := by
  have sn := sound_snd.1 hs
  rw [rk_bel sn hf fa (by omega), rank_bel sn hf fa, Nat.zero_add]
  exact Nat.mod_eq_of_lt (Nat.lt_of_le_of_lt (bel_le sn a) fa)
/-- the blocks of Rank: the address's, the result's and the number's -/
def HRk (w : World) (a m : Nat) (W : World) : Prop := Below w.heap.size w W ∧ Two w.heap.size a W ∧ Two (w.heap.size + 1) 0 W ∧ Two (w.heap.size + 1 + 1) m W
theorem HRk.step {w : World} {a m : Nat} {W w2 : World} (h : HRk w a m W) (hb : Below W.heap.size W w2) : HRk w a m w2 := ⟨chain h.1 hb, h.2.1.step hb, h.2.2.1.step hb, h.2.2.2.step hb⟩
theorem HRk.drew {w : World} {a m : Nat} {W : World} (h : HRk w a m W) : HRk w a m W.drew := h.step (below_drew _)
theorem HRk.put {w : World} {a m : Nat} {W : World} (h : HRk w a m W) (y : Nat) : HRk w a y ((W.setCell ⟨w.heap.size + 1 + 1, 0, none⟩ (.int .u64 (hi y : Nat))).setCell ⟨w.heap.size + 1 + 1, 1, none⟩ (.int .u64 (lo y : Nat))) :=
  ⟨(h.1.setCell (by dsimp only; omega) _).setCell (by dsimp only; omega) _, (h.2.1.set (by dsimp only; omega) _).set (by dsimp only; omega) _, (h.2.2.1.set (by dsimp only; omega) _).set (by dsimp only; omega) _, h.2.2.2.put y⟩
theorem HRk.far {w : World} {a m : Nat} {W : World} (h : HRk w a m W) {g : Nat} (hg : w.heap.size + 1 + 1 < g) (u1 u2 : Value) : HRk w a m ((W.setCell ⟨g, 2, none⟩ u1).setCell ⟨g, 3, none⟩ u2) :=
  ⟨(h.1.setCell (by dsimp only; omega) _).setCell (by dsimp only; omega) _, (h.2.1.set (by dsimp only; omega) _).set (by dsimp only; omega) _, (h.2.2.1.set (by dsimp only; omega) _).set (by dsimp only; omega) _, (h.2.2.2.set (by dsimp only; omega) _).set (by dsimp only; omega) _⟩
theorem hrk_new (w : World) (a : Nat) : HRk w a 0 (((w.alloc (.cells #[.int .u64 (hi a : Nat), .int .u64 (lo a : Nat)] 25)).alloc (.cells #[.int .u64 0, .int .u64 0] 25)).alloc (.cells #[.int .u64 0, .int .u64 0] 25)) := by
  have T0 := two_new w a 25
  have T1 := two_zero (w.alloc (.cells #[.int .u64 (hi a : Nat), .int .u64 (lo a : Nat)] 25)) 25
  have T2 := two_zero ((w.alloc (.cells #[.int .u64 (hi a : Nat), .int .u64 (lo a : Nat)] 25)).alloc (.cells #[.int .u64 0, .int .u64 0] 25)) 25
  rw [World.size_alloc] at T1
  rw [World.size_alloc, World.size_alloc] at T2
  exact ⟨chain (chain (below_alloc _ _) (below_alloc _ _)) (below_alloc _ _), (T0.step (below_alloc _ _)).step (below_alloc _ _), T1.step (below_alloc _ _), T2⟩
set_option maxRecDepth 100000 in
set_option maxHeartbeats 2000000 in
theorem rrank_any {v : Value} {l : List Rg} {a : Nat} (hf : FitL l) (fa : Fits a) (hl : l.length ≤ 1000000) (w : World) (hv : Lst v l w) : Calls Try.prog 27 #[v, A a] w (Gives (A (rankS l a)) w) := by
  have S := hide (fun W H => rsound_any (v := v) hf hl W H)
  have H0 := hrk_new w a
  have HV := hide hv
  obtain ⟨p, c, rfl, hold⟩ := lst_old hv
  cases e : soundL l with
  | false =>
    have R := hide (show rankS l a = 0 by unfold rankS; rw [e]; rfl)
    rw [e] at S
    clear e hv hold
    go_enter Try.func27, Try.ntmps27
    go_wp2_with fail
    go_loopw [6] (fun i wr => i = .int .i64 0 ∧ HRk w a 0 wr) (fun _ _ => 0)
    case atStart => exact ⟨rfl, H0⟩
    case round =>
      obtain ⟨rfl, HH⟩ := hrel
      clear H0
      go_wp2_with fail
      refine (S.out _ (HV.out.step HH.1)).mono ?_
      rintro e w1 ⟨rfl, hb1⟩
      have H1 := HH.step hb1
      obtain ⟨HB, _, ⟨t0, t1, t2, t3, t4⟩, u0, u1, u2, u3, u4⟩ := id H1
      clear HH hb1
      go_wp2
      refine bodyPost_ret (v := A 0) (by simp [results, Try.results27, go_sem, t1, t2, hi, lo]) rfl ⟨by rw [R.out], ?_⟩
      have hzB := HB.size
      repeat' (first | (with_reducible exact HB) | (with_reducible apply Below.drew) | (with_reducible apply Below.alloc) | (with_reducible apply Below.setCell))
      all_goals first | omega | (dsimp only; omega) | ((try simp); omega)
  | true =>
    have R := hide (rk_rank e hf fa)
    rw [e] at S
    clear e hv
    go_enter Try.func27, Try.ntmps27
    go_wp2_with fail
    go_loopw [6] (fun i wr => ∃ (k m : Nat), k ≤ l.length ∧ i = .int .i64 (k : Nat) ∧ HRk w a m wr ∧ Fits m ∧ Hid (rkF (l.drop k) a m = rankS l a)) (fun i _ => l.length - (intOf i).toNat)
    case atStart => exact ⟨0, 0, Nat.zero_le _, rfl, H0, by unfold Fits; omega, R⟩
    case round =>
      obtain ⟨k, m, hk, rfl, HH, fm, E⟩ := hrel
      clear H0 R
      go_wp2_with fail
      refine (S.out _ (HV.out.step HH.1)).mono ?_
      rintro e w1 ⟨rfl, hb1⟩
      have H1 := HH.step hb1
      clear HH hb1
      by_cases hlt : k < l.length
      · obtain ⟨x, hx⟩ := get_some hlt
        have fx := fit_at hf hx
        obtain ⟨b, o, rfl, hbb, x1, x2, x3, x4⟩ := (hold.keep H1.1) k x hx
        have L1 := hide (fun W => rle_any fa fx.1 W)
        have L2 := hide (fun W => rle_any fa fx.2 W)
        have AH := hide (fun W => rahead_any fa W)
        have fc := cut_fit fx fa
        have SZ := hide (fun W => rsize_any fc W)
        have fz : Fits (sizeR (cutR x a)) := fits_addS _ _
        have AD := hide (fun W => radd_any fm fz W)
        have fn := fits_addS m (sizeR (cutR x a))
        have NC := hide (show rankS l a = if a ≤ x.1 then m else rkF (l.drop (k + 1)) a (addS m (sizeR (cutR x a))) by rw [← E.out, drop_at' hx, rkF_cons])
        have KL : (k : Int) < (l.length : Int) := by omega
        have hbw : b < w1.heap.size := Nat.lt_of_lt_of_le hbb H1.1.size
        have F1 := four_new w1 x 27
        have H2 := H1.step (below_alloc w1 (.cells #[.int .u64 (hi x.1 : Nat), .int .u64 (lo x.1 : Nat), .int .u64 (hi x.2 : Nat), .int .u64 (lo x.2 : Nat)] 27))
        have gw : w.heap.size + 1 + 1 < w1.heap.size := H1.2.2.2.1
        obtain ⟨_, ⟨n0, n1, n2, n3, n4⟩, _⟩ := id H1
        clear hx E fz
        go_wp2_with fail
        clear x1 x2 x3 x4 n0 n1 n2 n3 n4 H1 hbw
        generalize w1.alloc (.cells #[.int .u64 (hi x.1 : Nat), .int .u64 (lo x.1 : Nat), .int .u64 (hi x.2 : Nat), .int .u64 (lo x.2 : Nat)] 27) = w2 at H2 F1 ⊢
        generalize w1.heap.size = g at F1 gw ⊢
        refine (L1.out _).mono ?_
        rintro e w3 ⟨rfl, hb3⟩
        have H3 := H2.step hb3
        have F3 := F1.step hb3
        clear H2 F1 hb3
        by_cases h : a ≤ x.1
        · rw [decide_eq_true h]
          have RV := hide (show rankS l a = m by rw [NC.out, if_pos h])
          obtain ⟨HB, _, ⟨t0, t1, t2, t3, t4⟩, u0, u1, u2, u3, u4⟩ := id H3
          clear h
          go_wp2
          refine bodyPost_ret (v := A m) (by simp [results, Try.results27, go_sem, t1, t2]) rfl ⟨by rw [RV.out], ?_⟩
          have hzB := HB.size
          repeat' (first | (with_reducible exact HB) | (with_reducible apply Below.drew) | (with_reducible apply Below.alloc) | (with_reducible apply Below.setCell))
          all_goals first | omega | (dsimp only; omega) | ((try simp); omega)
        · rw [decide_eq_false h]
          have A0 : 0 < a := by omega
          have RV := hide (show rkF (l.drop (k + 1)) a (addS m (sizeR (cutR x a))) = rankS l a by rw [NC.out, if_neg h])
          obtain ⟨_, ⟨n0, n1, n2, n3, n4⟩, _⟩ := id H3
          obtain ⟨f0, ⟨f1, f2, f3, f4⟩, fz1, fz2, fz3, fz4⟩ := id F3
          clear h
          go_wp2_with fail
          clear n0 n1 n2 n3 n4 f0 f1 f2 f3 f4 fz1 fz2 fz3 fz4
          refine (L2.out _).mono ?_
          rintro e w4 ⟨rfl, hb4⟩
          have H4 := H3.step hb4
          have F4 := F3.step hb4
          clear H3 F3 hb4
          go_upto_if 33 with fail
          go_cut [] (fun V => HRk w a m V ∧ Four g (cutR x a) V)
          case first =>
            by_cases h : a ≤ x.2
            · rw [decide_eq_true h]
              have CE := hide (show (x.1, subS a 1) = cutR x a by
                have e : subS a 1 = a - 1 := by unfold subS Fits at *; omega
                rw [e]
                unfold cutR
                rw [if_pos h])
              obtain ⟨_, ⟨n0, n1, n2, n3, n4⟩, _⟩ := id H4
              clear h
              generalize subS a 1 = q at *
              generalize subO a 1 = qo at *
              go_wp2_with fail
              clear n0 n1 n2 n3 n4
              refine (AH.out _).mono ?_
              rintro e w5 ⟨rfl, hb5⟩
              have H5 := H4.step hb5
              have F5 := F4.step hb5
              have H6 := (H5.far gw (.int .u64 (hi q : Nat)) (.int .u64 (lo q : Nat))).step (below_alloc _ (.cells #[.int .u64 (hi q : Nat), .int .u64 (lo q : Nat)] 25))
              have F6 := (F5.put2 q).step (below_alloc _ (.cells #[.int .u64 (hi q : Nat), .int .u64 (lo q : Nat)] 25))
              rw [CE.out] at F6
              obtain ⟨f0, ⟨f1, f2, f3, f4⟩, fz1, fz2, fz3, fz4⟩ := id F5
              clear H4 F4 hb5 H5 F5
              go_wp2
              go_meet
              exact ⟨H6, F6⟩
            · rw [decide_eq_false h]
              have CE : cutR x a = x := by unfold cutR; rw [if_neg h]
              go_wp2
              go_meet
              exact ⟨H4, by rw [CE]; exact F4⟩
          case rest =>
            obtain ⟨H5, F5⟩ := hcut
            generalize cutR x a = y at *
            generalize sizeR y = z at *
            generalize addS m z = n at *
            generalize addO m z = ov at *
            obtain ⟨_, _, _, t0, t1, t2, t3, t4⟩ := id H5
            obtain ⟨f0, ⟨f1, f2, f3, f4⟩, _⟩ := id F5
            clear H4 F4
            go_wp2_with fail
            go_region_with ((first
              | (go_at_call 47; refine (SZ.out _).mono ?_; rintro e w6 ⟨rfl, hb6⟩; have H6 : HRk w a m w6 := (by first | exact H5.step hb6 | exact H5.drew.step hb6); obtain ⟨_, _, _, s0, s1, s2, s3, s4⟩ := id H6)
              | (go_at_call 46; refine (AD.out _).mono ?_; rintro e w7 ⟨rfl, hb7⟩; have H7 := HRk.step H6 hb7; obtain ⟨_, _, _, r0, r1, r2, r3, r4⟩ := id H7)))
            all_goals
              have H8 := H7.put n
              go_wp2
              go_roundw
              case rel => exact ⟨k + 1, n, hlt, by go_num, H8, fn, RV⟩
              case measure => simp [intOf]; omega
      · have RV := hide (show rankS l a = m by rw [← E.out, List.drop_of_length_le (by omega), rkF_nil])
        obtain ⟨HB, _, ⟨t0, t1, t2, t3, t4⟩, u0, u1, u2, u3, u4⟩ := id H1
        go_wp2
        refine bodyPost_ret (v := A m) (by simp [results, Try.results27, go_sem, t1, t2]) rfl ⟨by rw [RV.out], ?_⟩
        have hzB := HB.size
        repeat' (first | (with_reducible exact HB) | (with_reducible apply Below.drew) | (with_reducible apply Below.alloc) | (with_reducible apply Below.setCell))
        all_goals first | omega | (dsimp only; omega) | ((try simp); omega)
end Go.Proofs.Ytbcdmnlkbghkpaa
