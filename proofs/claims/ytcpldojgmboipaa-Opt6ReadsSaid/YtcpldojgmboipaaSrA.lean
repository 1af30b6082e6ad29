/-
  The document's own answers, first part: whether a code may be a status, PutStatus, GetStatus, Parse. Conditions: a string is no longer than an int.
-/
import Derived.Test.YtcpldojgmboipaaSxE
namespace Go.Proofs.Ytcpldojgmboipaa
open Go.RowKit Go.Joins

set_option maxRecDepth 100000 in
theorem rstatus_any (c : Int) (w : World) : Calls Try.prog 51 #[.int .i64 c] w (Gives (.bool (codeO c)) w) := by
  by_cases h : -1 ≤ c
  · by_cases h2 : c ≤ 65535
    · have e : codeO c = true := codeO_iff.2 ⟨h, h2⟩
      rw [e]
      clear e
      go_enter Try.func51, Try.ntmps51
      go_wp2
      go_ret
      exact ⟨rfl, Below.refl _ _⟩
    · have e : codeO c = false := by rw [Bool.eq_false_iff, Ne, codeO_iff]; omega
      rw [e]
      clear e
      go_enter Try.func51, Try.ntmps51
      go_wp2
      go_ret
      exact ⟨rfl, Below.refl _ _⟩
  · have e : codeO c = false := by rw [Bool.eq_false_iff, Ne, codeO_iff]; omega
    rw [e]
    clear e
    go_enter Try.func51, Try.ntmps51
    go_wp2
    go_ret
    exact ⟨rfl, Below.refl _ _⟩
set_option maxRecDepth 100000 in
theorem rputStatus_any (c : Int) (w : World) : Calls Try.prog 18 #[.int .i64 c] w (Gives (St (statV c)) w) := by
  by_cases h : 0 ≤ c ∧ c ≤ 65535
  · obtain ⟨n, rfl⟩ : ∃ n : Nat, c = (n : Int) := ⟨c.toNat, by omega⟩
    have hn : n < 65536 := by omega
    have P := hide (fun W => put16_ref n hn W)
    have V := hide (show statV (n : Int) = beL 2 n by unfold statV; rw [if_pos h]; rfl)
    have h1 : ¬ (n : Int) < 0 := by omega
    have h2 : ¬ (65535 : Int) < (n : Int) := by omega
    have h3 : IntKind.u16.wrap (n : Int) = (n : Int) := by rw [IntKind.wrap_u16]; omega
    generalize beL 2 n = l at *
    clear h hn
    go_enter Try.func18, Try.ntmps18
    go_wp2_with fail
    refine (P.out _).mono ?_
    rintro e w' ⟨rfl, hb⟩
    go_wp2
    go_ret
    exact ⟨congrArg Ending.returned (by rw [V.out]; rfl), hb⟩
  · have V := hide (show statV c = [] by unfold statV; rw [if_neg h])
    by_cases h1 : c < 0
    · clear h
      go_enter Try.func18, Try.ntmps18
      go_wp2
      go_ret
      exact ⟨congrArg Ending.returned (by rw [V.out]; rfl), Below.refl _ _⟩
    · have h2 : (65535 : Int) < c := by omega
      clear h
      go_enter Try.func18, Try.ntmps18
      go_wp2
      go_ret
      exact ⟨congrArg Ending.returned (by rw [V.out]; rfl), Below.refl _ _⟩
set_option maxRecDepth 100000 in
theorem rgetStatus_any {s : ByteArray} (hs : s.size ≤ maxLen) (w : World) : Calls Try.prog 16 #[.string s] w (Same (.tuple #[.int .i64 (getC s), .bool (getK s)]) w) := by
  have G := hide (fun W => get16_ref s hs (show I64 0 from ⟨by omega, by omega⟩) W)
  rw [get2.1] at G
  by_cases h : 2 ≤ s.size
  · have K := hide (show getK s = true by unfold getK; simpa using h)
    have V := hide (show getC s = (num 2 s : Nat) by unfold getC; rw [if_neg (by omega)])
    rw [K.out, get2.2 h] at G
    have N := num_lt 2 s
    generalize num 2 s = v at *
    have h3 : IntKind.i64.wrap (v : Int) = (v : Int) := by rw [IntKind.wrap_i64]; omega
    clear h hs
    go_enter Try.func16, Try.ntmps16
    go_wp2_with fail
    refine (G.out _).mono ?_
    rintro e w' ⟨rfl, rfl⟩
    go_wp2
    go_ret2
    exact ⟨congrArg Ending.returned (tup2 (by rw [V.out]; rfl) (by rw [K.out]; rfl)), rfl⟩
  · have K := hide (show getK s = false by unfold getK; simpa using h)
    have V := hide (show getC s = -1 by unfold getC; rw [if_pos (by omega)])
    rw [K.out] at G
    generalize getV 2 s 0 = v at *
    clear h hs
    go_enter Try.func16, Try.ntmps16
    go_wp2_with fail
    refine (G.out _).mono ?_
    rintro e w' ⟨rfl, rfl⟩
    go_wp2
    go_ret2
    exact ⟨congrArg Ending.returned (tup2 (by rw [V.out]; rfl) (by rw [K.out]; rfl)), rfl⟩
/-! ### Parse -/
theorem getV_off {s : ByteArray} {k n : Nat} (h : k + n ≤ s.size) : cutO s k n = true ∧ getV n s k = beV (((lb s).drop k).take n) ∧ cutV s k n = bs (((lb s).drop k).take n) := by
  have e : cutO s k n = true := by unfold cutO; rw [decide_eq_true_eq]; omega
  have e2 : cutV s k n = bs (((lb s).drop k).take n) := by rw [cut_yes e, Int.toNat_natCast, Int.toNat_natCast, sub_bs]
  refine ⟨e, ?_, e2⟩
  unfold getV
  rw [e2]
theorem cut_off {s : ByteArray} {k n : Nat} (h : ¬ k + n ≤ s.size) : cutO s k n = false := by
  unfold cutO; rw [decide_eq_false_iff_not]; omega
theorem take_off {s : ByteArray} {k : Nat} (h1 : ¬ ((lb s).drop k).length < 4) (h2 : ¬ ((lb s).drop k).length < 4 + lenP ((lb s).drop k)) :
    cutO s k 2 = true ∧ getV 2 s k = (optP ((lb s).drop k)).1.toNat ∧ takeO s ((k : Int) + 2) = true ∧ takeV s ((k : Int) + 2) = (optP ((lb s).drop k)).2 ∧ takeE s ((k : Int) + 2) = ((k + 4 + lenP ((lb s).drop k) : Nat) : Int) ∧ restP ((lb s).drop k) = (lb s).drop (k + 4 + lenP ((lb s).drop k)) := by
  have hl : ((lb s).drop k).length = s.size - k := by rw [List.length_drop, lb_len]
  rw [hl] at h1 h2
  obtain ⟨a1, a2, _⟩ := getV_off (s := s) (k := k) (n := 2) (by omega)
  obtain ⟨b1, b2, _⟩ := getV_off (s := s) (k := k + 2) (n := 2) (by omega)
  have eL : getV 2 s ((k : Int) + 2) = lenP ((lb s).drop k) := by
    rw [show (k : Int) + 2 = ((k + 2 : Nat) : Int) by omega, b2]
    unfold lenP
    rw [List.drop_drop]
  have b1' : cutO s ((k : Int) + 2) 2 = true := b1
  obtain ⟨c1, _, c3⟩ := getV_off (s := s) (k := k + 4) (n := lenP ((lb s).drop k)) (by omega)
  have c1' : cutO s ((k : Int) + 2 + 2) (getV 2 s ((k : Int) + 2) : Nat) = true := by rw [eL, show (k : Int) + 2 + 2 = ((k + 4 : Nat) : Int) by omega]; exact c1
  obtain ⟨t1, t2, t3⟩ := take_yes b1' c1'
  refine ⟨a1, ?_, t3, ?_, ?_, ?_⟩
  · rw [a2]
    show _ = (UInt16.ofNat (codeP ((lb s).drop k))).toNat
    rw [UInt16.toNat_ofNat']
    unfold codeP
    have := beL2 (l := ((lb s).drop k).take 2) (by rw [List.length_take, hl]; omega)
    rw [Nat.mod_eq_of_lt (by omega)]
  · rw [t1, eL, show (k : Int) + 2 + 2 = ((k + 4 : Nat) : Int) by omega, c3]
    show _ = bs (dataP _)
    unfold dataP
    rw [List.drop_drop]
  · rw [t2, eL]; omega
  · unfold restP
    rw [List.drop_drop, show k + (4 + lenP ((lb s).drop k)) = k + 4 + lenP ((lb s).drop k) by omega]
theorem take_off_no {s : ByteArray} {k : Nat} (h : ((lb s).drop k).length < 4 ∨ ((lb s).drop k).length < 4 + lenP ((lb s).drop k)) : takeO s ((k : Int) + 2) = false := by
  have hl : ((lb s).drop k).length = s.size - k := by rw [List.length_drop, lb_len]
  rw [hl] at h
  by_cases h1 : k + 2 + 2 ≤ s.size
  · obtain ⟨b1, b2, _⟩ := getV_off (s := s) (k := k + 2) (n := 2) h1
    have eL : getV 2 s ((k : Int) + 2) = lenP ((lb s).drop k) := by
      rw [show (k : Int) + 2 = ((k + 2 : Nat) : Int) by omega, b2]
      unfold lenP
      rw [List.drop_drop]
    have hn : ¬ k + 4 + lenP ((lb s).drop k) ≤ s.size := by omega
    refine (take_no2 ?_).2.2
    rw [eL, show (k : Int) + 2 + 2 = ((k + 4 : Nat) : Int) by omega]
    exact cut_off hn
  · exact (take_no1 (cut_off (k := k + 2) (n := 2) h1)).2.2
set_option maxRecDepth 100000 in
set_option maxHeartbeats 4000000 in
theorem rparse_any {s : ByteArray} (hs : s.size ≤ maxLen) (w : World) : Calls Try.prog 11 #[.string s] w (ParseP s w) := by
  have hs2 : s.size ≤ 9223372036854775807 := by unfold maxLen at hs; exact hs
  have G16 := hide (fun k (h : I64 k) W => get16_ref s hs h W)
  have TR := hide (fun k (h : I64 k) W => takeRun_ref s hs h W)
  have PE := hide (show ∀ l, parseK 0 (lb s) = .ok l → parE s = 0 ∧ parL s = l from fun l h => by unfold parE parL; rw [h]; exact ⟨rfl, rfl⟩)
  have PN := hide (show ∀ x, parseK 0 (lb s) = .error x → parE s = x ∧ parL s = [] from fun x h => by unfold parE parL; rw [h]; exact ⟨rfl, rfl⟩)
  have P0 := hide (show addP [] (parseK ([] : List Opt).length ((lb s).drop 0)) = parseK 0 (lb s) from addP_nil (parseK 0 (lb s)))
  have O0 := hide (show OwnO (w.alloc (.cells #[] 40)) w.heap.size (.slice (some ⟨w.heap.size, 0, none⟩) 0 0) [] from World.ownsRow_lit (base := w.heap.size) (e := 40) (size := 2) w #[] 0 (Nat.le_refl _) (by omega) rfl)
  have B0 := hide (below_alloc w (.cells #[] 40))
  clear hs
  go_enter Try.func11, Try.ntmps11
  go_wp2_with fail
  go_loopw [4, 5] (fun v i wr => ∃ (l : List Opt) (p : Option Go.Addr) (c k : Nat), v = .slice p l.length c ∧ i = .int .i64 (k : Nat) ∧ k ≤ s.size ∧ l.length ≤ 128 ∧ Hid (addP l (parseK l.length ((lb s).drop k)) = parseK 0 (lb s)) ∧ Hid (OwnO wr w.heap.size (.slice p l.length c) l) ∧ Hid (Below w.heap.size w wr)) (fun _ i _ => s.size - (intOf i).toNat)
  case atStart => exact ⟨[], _, 0, 0, rfl, rfl, Nat.zero_le _, Nat.zero_le _, P0, O0, B0⟩
  case round =>
    obtain ⟨l, p, c, k, rfl, rfl, hk, hl, HT, HO, HB⟩ := hrel
    clear P0 O0 B0
    have hln : ((lb s).drop k).length = s.size - k := by rw [List.length_drop, lb_len]
    by_cases h0 : k < s.size
    · have I1 : I64 (k : Int) := by unfold I64; omega
      have h0' : (k : Int) < (s.size : Int) := by omega
      have hne : (lb s).drop k ≠ [] := by intro e; rw [e] at hln; simp at hln; omega
      have lc : l.length ≤ c := (lstO_cap (ownO_lst HO.out)).2.1
      by_cases hbad : ((lb s).drop k).length < 4 ∨ ((lb s).drop k).length < 4 + lenP ((lb s).drop k)
      · have HE := hide (PN.out 3 (by
          rw [← HT.out]
          rcases hbad with h2 | h2
          · exact addP_error (parse_short hne h2)
          · by_cases h4 : ((lb s).drop k).length < 4
            · exact addP_error (parse_short hne h4)
            · exact addP_error (parse_cut h4 h2)))
        by_cases h2 : k + 2 ≤ s.size
        · have W2 : IntKind.i64.wrap ((k : Int) + 2) = (k : Int) + 2 := IntWalk.i64_in _ ⟨by omega, by omega⟩
          have A1 := hide (fun W => G16.out (k : Int) I1 W)
          have A2 := hide (fun W => TR.out ((k : Int) + 2) (by unfold I64; omega) W)
          rw [show cutO s (k : Int) 2 = true from (getV_off (s := s) (k := k) (n := 2) h2).1] at A1
          rw [take_off_no hbad] at A2
          generalize getV 2 s (k : Int) = x1 at *
          generalize takeV s ((k : Int) + 2) = x2 at *
          generalize takeE s ((k : Int) + 2) = x3 at *
          have I2 : -9223372036854775808 ≤ (k : Int) + 2 ∧ (k : Int) + 2 ≤ 9223372036854775807 := ⟨by omega, by omega⟩
          clear hbad HT HO hne hln PE PN G16 TR I1 h2
          go_wp2_with fail
          refine (A1.out _).mono ?_
          rintro e w1 ⟨rfl, rfl⟩
          go_wp2_with fail
          refine (A2.out _).mono ?_
          rintro e w2 ⟨rfl, rfl⟩
          go_wp2
          go_ret2
          exact ⟨.slice none 0 0, congrArg Ending.returned (tup2 rfl (by rw [HE.out.1]; rfl)), by rw [HE.out.2]; exact ownO_nil _ _, HB.out⟩
        · have A1 := hide (fun W => G16.out (k : Int) I1 W)
          have IB : ∀ x : Int, I64 (wrap64 x) := fun x => by unfold I64 wrap64; omega
          have A2 := hide (fun W => TR.out (wrap64 ((k : Int) + 2)) (IB _) W)
          rw [show cutO s (k : Int) 2 = false from cut_off (n := 2) h2] at A1
          generalize getV 2 s (k : Int) = x1 at *
          generalize takeV s (wrap64 ((k : Int) + 2)) = x2 at *
          generalize takeE s (wrap64 ((k : Int) + 2)) = x3 at *
          generalize takeO s (wrap64 ((k : Int) + 2)) = x4 at *
          clear hbad HT HO hne hln PE PN G16 TR I1 h2 IB
          go_wp2_with fail
          refine (A1.out _).mono ?_
          rintro e w1 ⟨rfl, rfl⟩
          go_wp2_with fail
          refine (A2.out _).mono ?_
          rintro e w2 ⟨rfl, rfl⟩
          go_wp2
          go_ret2
          exact ⟨.slice none 0 0, congrArg Ending.returned (tup2 rfl (by rw [HE.out.1]; rfl)), by rw [HE.out.2]; exact ownO_nil _ _, HB.out⟩
      · have h3 : ¬ ((lb s).drop k).length < 4 := fun e => hbad (Or.inl e)
        have h4 : ¬ ((lb s).drop k).length < 4 + lenP ((lb s).drop k) := fun e => hbad (Or.inr e)
        obtain ⟨t1, t2, t3, t4, t5, t6⟩ := take_off h3 h4
        have W2 : IntKind.i64.wrap ((k : Int) + 2) = (k : Int) + 2 := IntWalk.i64_in _ ⟨by omega, by omega⟩
        have A1 := hide (fun W => G16.out (k : Int) I1 W)
        have A2 := hide (fun W => TR.out ((k : Int) + 2) (by unfold I64; omega) W)
        have I2 : -9223372036854775808 ≤ (k : Int) + 2 ∧ (k : Int) + 2 ≤ 9223372036854775807 := ⟨by omega, by omega⟩
        rw [t1, t2] at A1
        rw [t3, t4, t5] at A2
        have hk2 : k + 4 + lenP ((lb s).drop k) ≤ s.size := by omega
        by_cases h5 : l.length < 128
        · have HT2 := hide (show addP (l ++ [optP ((lb s).drop k)]) (parseK (l.length + 1) ((lb s).drop (k + 4 + lenP ((lb s).drop k)))) = parseK 0 (lb s) by
            rw [← HT.out, parse_step h3 h4 (by omega), addP_add, t6])
          generalize optP ((lb s).drop k) = x at *
          have hk3 : k < k + 4 + lenP ((lb s).drop k) := by omega
          generalize k + 4 + lenP ((lb s).drop k) = k2 at *
          have h6 : ¬ (128 : Int) ≤ (l.length : Int) := by omega
          clear hbad HT hne hln PE PN G16 TR I1 h3 h4 t1 t2 t3 t4 t5 t6
          go_wp2_with fail
          refine (A1.out _).mono ?_
          rintro e w1 ⟨rfl, rfl⟩
          go_wp2_with fail
          refine (A2.out _).mono ?_
          rintro e w2 ⟨rfl, rfl⟩
          have O3 := hide (World.ownsRow.alloc HO.out (.cells #[.int .u16 (x.1.toNat : Int), .string x.2] 40))
          have B3 := hide (HB.out.trans ((below_alloc wr (.cells #[.int .u16 (x.1.toNat : Int), .string x.2] 40)).mono HB.out.size))
          go_wp2_with (at_builtin; refine wpList_append_oneO rfl (.tmp 39) (.tmp 43) rfl w.heap.size _ l rfl O3.out wr.heap.size 1 x rfl own_two (by omega) B3.out.size ?_; intro g cap w4 q1 q2 q3 q4)
          have Q1 := hide q1
          have B4 := hide (B3.out.trans q2)
          clear q1 q2 q3 q4 O3 B3
          go_wp2
          go_roundw
          case rel => exact ⟨l ++ [x], some ⟨g, 0, none⟩, cap, k2, by rw [List.length_append]; rfl, rfl, hk2, by rw [List.length_append]; exact h5, by rw [List.length_append]; exact HT2, by rw [List.length_append]; exact Q1, B4⟩
          case measure => simp [intOf]; omega
        · have HE := hide (PN.out 6 (by rw [← HT.out]; exact addP_error (parse_many h3 h4 (by omega))))
          generalize optP ((lb s).drop k) = x at *
          generalize k + 4 + lenP ((lb s).drop k) = k2 at *
          have h6 : (128 : Int) ≤ (l.length : Int) := by omega
          clear hbad HT hne hln PE PN G16 TR I1 h3 h4 t1 t2 t3 t4 t5 t6
          go_wp2_with fail
          refine (A1.out _).mono ?_
          rintro e w1 ⟨rfl, rfl⟩
          go_wp2_with fail
          refine (A2.out _).mono ?_
          rintro e w2 ⟨rfl, rfl⟩
          go_wp2
          go_ret2
          exact ⟨.slice none 0 0, congrArg Ending.returned (tup2 rfl (by rw [HE.out.1]; rfl)), by rw [HE.out.2]; exact ownO_nil _ _, HB.out⟩
    · have h0' : ¬ (k : Int) < (s.size : Int) := by omega
      have HE := hide (PE.out l (by
        rw [← HT.out, show (lb s).drop k = [] from List.length_eq_zero_iff.1 (by omega), parse_nil]; simp [addP]))
      clear HT hln PE PN G16 TR
      go_wp2
      go_ret2
      exact ⟨_, congrArg Ending.returned (tup2 rfl (by rw [HE.out.1]; rfl)), by rw [HE.out.2]; exact HO.out, HB.out⟩
end Go.Proofs.Ytcpldojgmboipaa
