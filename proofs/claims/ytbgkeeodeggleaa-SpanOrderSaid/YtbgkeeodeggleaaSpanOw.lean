/-
  The walk of SpanOrder: it returns true. Condition: the words are words of 64 bits (every value of the types is such).
-/
import Derived.Test.YtbgkeeodeggleaaSpanOm
import Derived.Test.YtbgkeeodeggleaaSpanAp
namespace Go.Proofs.Ytbgkeeodeggleaa
open Go.RowKit Go.Joins

theorem built_cut (l : List Rg) : builtL (l.take 200) = builtL l := by
  unfold builtL
  rw [List.take_take, Nat.min_self]
theorem rev_next {l : List Rg} {j : Nat} {x : Rg} (h : l[j]? = some x) : (l.drop (j + 1)).reverse ++ [x] = (l.drop j).reverse := by
  have hl : j < l.length := (List.getElem?_eq_some_iff.1 h).1
  have e : l[j] = x := (List.getElem?_eq_some_iff.1 h).2
  rw [List.drop_eq_getElem_cons hl, e, List.reverse_cons]

set_option maxRecDepth 100000 in
set_option maxHeartbeats 1000000 in
theorem order_any {v : Value} {l : List Rg} (hf : FitL l) (w : World) (hv : Lst v l w) :
    Calls Try.prog 6 #[v] w (Gives (.bool true) w) := by
  obtain ⟨p, c, rfl⟩ := lst_len hv
  obtain ⟨c1, c2, c3⟩ := lst_cap hv
  obtain ⟨i0, hi0, hz0, hz1, hz2⟩ := info_parts infoR
  have AW := hide (fun W => awake_any W)
  obtain ⟨N, hN⟩ : ∃ N, N = (l.take 200).length := ⟨_, rfl⟩
  have hN2 : N = min 200 l.length := by rw [hN, List.length_take]
  have N200 : N ≤ 200 := by omega
  have Nl : N ≤ l.length := by omega
  have TK : l.take N = l.take 200 := by
    rw [hN2]
    by_cases h : 200 ≤ l.length
    · rw [Nat.min_eq_left h]
    · rw [Nat.min_eq_right (by omega), List.take_length, List.take_of_length_le (by omega)]
  have L2 := hide (show (l.take N).length = N by rw [List.length_take]; omega)
  have f2 : FitL (l.take N) := fun x hx => hf x (List.mem_of_mem_take hx)
  have BU := hide (fun W H => built_any (v := .slice p N c) f2 W H)
  have BE : builtL (l.take N) = builtL l := by rw [TK, built_cut]
  rw [BE] at BU
  obtain ⟨g1, g2, g3⟩ := builtL_good hf
  have fr : FitL (l.take N).reverse := fun x hx => f2 x (List.mem_reverse.1 hx)
  have BT := hide (fun W vt H => built_any (v := vt) fr W H)
  have ET : builtL (l.take N).reverse = builtL l := by rw [TK]; exact built_turned hf
  rw [ET] at BT
  have fw : FitL (l.take N ++ builtL l) := fun x hx => (List.mem_append.1 hx).elim (f2 x) (g2 x)
  have BW := hide (fun W vt H => built_any (v := vt) fw W H)
  have EW := hide (fun (h : (l.take N ++ builtL l).length ≤ 200) => (show builtL (l.take N ++ builtL l) = builtL l by rw [TK] at h ⊢; exact built_twice hf h))
  have BX := hide (fun W vt H => built_any (v := vt) f2 W H)
  rw [BE] at BX
  have TT := hide (show (l.take N ++ builtL l).take N = l.take N by rw [List.take_append, L2.out, Nat.sub_self, List.take_zero, List.append_nil, List.take_of_length_le (by rw [L2.out]; exact Nat.le_refl _)])
  have TL : N ≤ (l.take N ++ builtL l).length ∧ (l.take N ++ builtL l).length ≤ 400 := by rw [List.length_append, L2.out]; omega
  have NL : (N : Int) = if (200 : Int) < (l.length : Int) then 200 else (l.length : Int) := by split <;> omega
  have NI := hide NL
  have HT := hide (show Lst (.slice p N c) (l.take N) w from lst_cut hv Nl)
  clear hN hN2 TK BE ET NL hf hv
  have Nc : N ≤ c := by omega
  generalize builtL l = s at *
  generalize hm : l.take N = m at *
  clear hm
  have SM := hide (fun W va vb (H : Lst va s W) (K : Lst vb s W) => via (same_any (by omega) W H K) (v' := .bool true) (by rw [decide_eq_true rfl]))
  go_enter Try.func6, Try.ntmps6
  go_wp2_with fail
  refine (AW.out _).mono ?_
  rintro e w1 ⟨rfl, hb1⟩
  have HT1 := HT.out.step hb1
  go_upto_if 13 with fail
  go_cut [3] (fun s3 wx => s3 = .int .i64 (N : Int) ∧ w1 = wx)
  case first =>
    by_cases h : (200 : Int) < (l.length : Int)
    · have e := hide (show (N : Int) = 200 by rw [NI.out, if_pos h])
      go_wp2
      all_goals (go_meet; exact ⟨by rw [e.out], rfl⟩)
    · have e := hide (show (N : Int) = (l.length : Int) by rw [NI.out, if_neg h])
      go_wp2
      all_goals (go_meet; exact ⟨by rw [e.out], rfl⟩)
  case rest =>
    obtain ⟨rfl, rfl⟩ := hcut
    go_wp2_with fail
    refine (BU.out _ HT1).mono ?_
    rintro e w2 ⟨vs, rfl, hb2, S2⟩
    have HB2 := chain hb1 hb2
    have T2 := HT1.step hb2
    clear hb1 hb2 HT1 HT BU
    go_wp2_with (at_make; refine wpList_make_own _ rfl _ _ 22 rfl w2.heap.size 27 i0 (.agg #[.int .u64 0, .int .u64 0, .int .u64 0, .int .u64 0]) 4 Try.underlying22 hi0 hz0 hz1 _ _ _ N rfl rfl (by omega) ?b2 ?b3 (Nat.le_refl _) ?_)
    case b2 => rw [hz2]; omega
    case b3 => unfold maxLen; omega
    intro w3 hown3 hgrow3
    have B3 : Below w2.heap.size w2 w3 := (Below.refl _ _).grown hgrow3 (Nat.le_refl _) (fun k h => by cases h)
    clear hgrow3
    go_wp2_with fail
    go_loopw [5, 6] (fun s5 i wr => ∃ (k : Nat) (v' : Value), k ≤ N ∧ i = .int .i64 ((k : Int) - 1) ∧ v' = s5 ∧ Below w2.heap.size w2 wr ∧ Own wr w2.heap.size v' (m.drop k).reverse) (fun _ i _ => (intOf i + 1).toNat)
    case atStart =>
      refine ⟨N, _, Nat.le_refl _, rfl, rfl, B3, ?_⟩
      rw [List.drop_of_length_le (by rw [L2.out]; exact Nat.le_refl _)]
      exact hown3
    case round =>
      obtain ⟨k, v', hk, rfl, rfl, HB, HO⟩ := hrel
      clear B3 hown3
      have SR := S2.step HB
      have TR := T2.step HB
      by_cases h0 : k = 0
      · subst h0
        have MO := own_lst HO
        clear HO
        rw [List.drop_zero] at MO
        have OE := own_empty wr
        have BE0 := below_alloc wr (.cells #[] 27)
        have TA := TR.step BE0
        go_wp2_with (first
          | (at_builtin; refine wpList_append_lst rfl (.tmp 33) (.tmp 36) rfl wr.heap.size _ [] rfl OE _ m rfl TA (by have := L2.out; simp; omega) (by simp) ?_; intro v4 w4 HO4 HB4 _; have B4 := BE0.trans HB4; have S4 := SR.step B4; rw [List.nil_append] at HO4)
          | (at_builtin; refine wpList_append_lst rfl (.tmp 37) (.tmp 38) rfl wr.heap.size _ m rfl HO4 _ s rfl S4 (by have := L2.out; omega) B4.size ?_; intro v5 w5 HO5 HB5 _; have W5 := own_lst HO5; obtain ⟨p5, c5, rfl⟩ := lst_len W5; obtain ⟨k1, k2, _⟩ := lst_cap W5; have B5 := B4.trans HB5; have S5 := SR.step B5; have M5 := MO.step B5; have HB5' := chain HB2 (chain HB B5); clear TA OE BE0 B4 HB4 HO4 S4 HO5 HB5 B5 MO SR TR S2 T2 HB HB2; generalize m ++ s = tw at *; by_cases h200 : (200 : Int) < (tw.length : Int)))
        · have W6 := lst_cut W5 (f := N) TL.1
          rw [TT.out] at W6
          have Nc5 : N ≤ c5 := by omega
          have BX := hide (fun W => BX.out W (.slice p5 N c5))
          clear W5 BW EW
          refine (BT.out _ _ M5).mono ?_
          rintro e w6 ⟨va, rfl, hb6, V6⟩
          have S6 := S5.step hb6
          have W7 := W6.step hb6
          have HB6 := chain HB5' hb6
          clear S5 W6 hb6 M5
          go_wp2_with fail
          refine (SM.out _ _ _ S6 V6).mono ?_
          rintro e w7 ⟨rfl, hb7⟩
          have S7 := S6.step hb7
          have W8 := W7.step hb7
          have HB7 := chain HB6 hb7
          clear S6 W7 hb7 V6
          go_wp2_with fail
          refine (BX.out _ W8).mono ?_
          rintro e w8 ⟨vb, rfl, hb8, V8⟩
          have S8 := S7.step hb8
          have HB8 := chain HB7 hb8
          clear S7 hb8 W8
          go_wp2_with fail
          refine (SM.out _ _ _ S8 V8).mono ?_
          rintro e w9 ⟨rfl, hb9⟩
          go_wp2
          go_ret
          exact ⟨rfl, chain HB8 hb9⟩
        · have E5 := EW.out (by omega)
          rw [E5] at BW
          clear E5
          have BW := hide (fun W => BW.out W (.slice p5 tw.length c5))
          refine (BT.out _ _ M5).mono ?_
          rintro e w6 ⟨va, rfl, hb6, V6⟩
          have S6 := S5.step hb6
          have W7 := W5.step hb6
          have HB6 := chain HB5' hb6
          clear S5 W5 hb6 M5
          go_wp2_with fail
          refine (SM.out _ _ _ S6 V6).mono ?_
          rintro e w7 ⟨rfl, hb7⟩
          have S7 := S6.step hb7
          have W8 := W7.step hb7
          have HB7 := chain HB6 hb7
          clear S6 W7 hb7 V6
          go_wp2_with fail
          refine (BW.out _ W8).mono ?_
          rintro e w8 ⟨vb, rfl, hb8, V8⟩
          have S8 := S7.step hb8
          have HB8 := chain HB7 hb8
          clear S7 hb8 W8
          go_wp2_with fail
          refine (SM.out _ _ _ S8 V8).mono ?_
          rintro e w9 ⟨rfl, hb9⟩
          go_wp2
          go_ret
          exact ⟨rfl, chain HB8 hb9⟩
      · obtain ⟨j, hj⟩ : ∃ j, k = j + 1 := ⟨k - 1, by omega⟩
        subst hj
        have J1 : ((j + 1 : Nat) : Int) - 1 = (j : Int) := by omega
        rw [J1]
        clear J1 h0
        have hjm : j < m.length := by rw [L2.out]; omega
        obtain ⟨x, hx⟩ := get_some hjm
        have RN := hide (rev_next hx)
        have JK : (j : Int) < (N : Int) := by omega
        have JL : (j : Int) < (l.length : Int) := by omega
        have LN : (m.drop (j + 1)).reverse.length ≤ 200 := by rw [List.length_reverse, List.length_drop, L2.out]; omega
        rcases TR with ⟨_, _, hv, hm0, _⟩ | ⟨b, o, c', hv, hr, _⟩
        · rw [hm0] at hjm; simp at hjm
        · cases hv
          obtain ⟨x1, x2, x3, x4⟩ := hr.2 j x hx
          have FN := four_new wr x 27
          have HBA := HB.alloc HB.size (.cells #[.int .u64 (hi x.1 : Nat), .int .u64 (lo x.1 : Nat), .int .u64 (hi x.2 : Nat), .int .u64 (lo x.2 : Nat)] 27)
          have HOA := own_keep HO (below_alloc wr (.cells #[.int .u64 (hi x.1 : Nat), .int .u64 (lo x.1 : Nat), .int .u64 (hi x.2 : Nat), .int .u64 (lo x.2 : Nat)] 27))
          clear hx hjm HO
          generalize (m.drop (j + 1)).reverse = pre at *
          go_wp2_with (at_builtin; refine wpList_append_lst rfl (.tmp 26) (.tmp 31) rfl w2.heap.size _ pre rfl HOA _ [x] rfl (Or.inr ⟨wr.heap.size, 0, 1, rfl, row_one FN, by simp, by simp, by omega⟩) (by simp; omega) HBA.size ?_; intro v6 w6 HO6 HB6 _)
          rw [RN.out] at HO6
          have HB7 := HBA.trans HB6
          go_wp2
          go_roundw
          case rel => exact ⟨j, v6, by omega, by go_num, rfl, HB7, HO6⟩
          case measure => simp [intOf] <;> omega
end Go.Proofs.Ytbgkeeodeggleaa
