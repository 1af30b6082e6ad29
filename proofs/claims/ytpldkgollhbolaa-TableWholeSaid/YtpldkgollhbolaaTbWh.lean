/-
  The walk of the law TableWhole: it returns true. Conditions: fewer than 2^63 lists, of changes of their types; a slice has no more elements than room, and a nil one has no room (every slice of the types is such).
-/
import Derived.Test.YtpldkgollhbolaaTbWm
namespace Go.Proofs.Ytpldkgollhbolaa
open Go.RowKit Go.Joins Go.Maps

set_option maxRecDepth 100000 in
set_option maxHeartbeats 16000000 in
theorem whole_any {ls : List (List Ch)} (ok : ∀ l ∈ ls, okL l) (hm : ls.length ≤ maxLen) {l : List Ch} (okl : okL l) {p q : Option Go.Addr} {cap c : Nat} (hlm : l.length ≤ maxLen) (hcl : l.length ≤ c) (hq : q = none → c = 0) (w : World) (hr : RwsC p ls w) (hlq : LstC q l w) :
    Calls Try.prog 5 #[.slice p ls.length cap, .slice q l.length c] w (Gives (.bool true) w) := by
  have HM := hlm
  unfold maxLen at HM
  have AW := hide (awake_any w)
  have FI := hide (fun W h => filled_any ok hm (cap := cap) W (hr.step h))
  have OKL := hide okl
  have LQ := hide hlq
  have HQ := hide hq
  have HCL := hide hcl
  clear ok hr hm okl hlq hq hlm hcl
  go_enter Try.func5, Try.ntmps5
  go_wp2_with fail
  refine AW.out.mono ?_
  rintro e w1 ⟨rfl, hb1⟩
  have F2 := hide (FI.out w1 hb1)
  have B1 := hide hb1
  clear FI hb1 AW
  by_cases h300 : l.length ≤ 300
  · have h300i : ¬ (l.length : Int) > 300 := by omega
    have h301 : (l.length : Int) ≤ 300 := by omega
    go_wp2_with fail
    refine F2.out.mono ?_
    rintro e w2 ⟨t, rfl, hT⟩
    have T2 := hide hT
    have B2 := hide (chain B1.out hT.1)
    have CP := hide (copy_any hT.2)
    have TL := hide hT.2.tabL
    have S02 := hide (Nat.le_trans B1.out.size hT.1.size)
    have S01 := hide B1.out.size
    clear hT B1 F2
    generalize fillL [] (ls.take 300) = L at *
    go_wp2_with fail
    refine CP.out.mono ?_
    rintro e w3 ⟨u, rfl, hbc, hC⟩
    have C3 := hide hC
    have S23 := hide hbc.size
    have T3 := hide (T2.out.2.below hbc)
    have B3 := hide (chain B2.out hbc)
    have AL := hide (all_any T3.out)
    clear CP T2 B2 hbc hC
    go_wp2_with fail
    refine AL.out.mono ?_
    rintro e w4 ⟨v, rfl, hr, hb⟩
    obtain ⟨q1, c1, rfl, hl, hn⟩ := hr.lst
    have T4 := hide (T3.out.below hb)
    have C4 := hide (C3.out.below hb)
    have L4 := hide hl
    have N4 := hide hn
    have B4 := hide (chain B3.out hb)
    have H24 := TL.out.good.size
    have S34 := hide hb.size
    clear hr hl hn hb B3 AL T3 C3
    have mk := fun W => run_mc (l.length + 1) (by omega) W
    have hcast : ((l.length + 1 : Nat) : Int) = (l.length : Int) + 1 := by omega
    simp only [hcast] at mk
    clear hcast
    have OM := hide (own_made (l.length + 1) (by omega) w4)
    have LQ4 := hide (LQ.out.step (chain B4.out (below_alloc w4 (.cells (madeCells #[.bool false, .int .i64 0, .int .u64 0, .int .u64 0, .int .i64 0, .int .i64 0, .string ⟨#[]⟩, .int .u32 0, .int .i64 0] ((l.length + 1) * 9)) 54))))
    have BA := hide (below_alloc w4 (.cells (madeCells #[.bool false, .int .i64 0, .int .u64 0, .int .u64 0, .int .i64 0, .int .i64 0, .string ⟨#[]⟩, .int .u32 0, .int .i64 0] ((l.length + 1) * 9)) 54))
    generalize madeCells #[.bool false, .int .i64 0, .int .u64 0, .int .u64 0, .int .i64 0, .int .i64 0, .string ⟨#[]⟩, .int .u32 0, .int .i64 0] ((l.length + 1) * 9) = mc at *
    obtain ⟨i0, hi, hz0, hz1, hz2⟩ := info_parts infoC
    go_wp2_with (at_builtin; first
      | (refine wpList_append_lstC rfl (.tmp 27) (.tmp 28) rfl w4.heap.size (.slice (some ⟨w4.heap.size, 0, none⟩) 0 (l.length + 1)) [] rfl OM.out q l c rfl HQ.out LQ4.out (by simp; omega) (by simp) ?_; intro v5 w5 O5 Z5 G5; have OZ := World.ownsRow.alloc (show OwnC w5 w4.heap.size v5 l from O5) (.cells #[.bool false, .int .i64 0, .int .u64 0, .int .u64 0, .int .i64 0, .int .i64 0, .string ⟨#[]⟩, .int .u32 0, .int .i64 0] 54); have NZ := wd_at w5 zC 54; have SZ5 := Z5.size; simp at SZ5; have HZ5 := hide Z5; clear O5 G5 Z5)
      | (refine wpList_append_lies _ rfl (.tmp 30) (.tmp 32) 51 rfl w4.heap.size 54 i0 (.agg #[.bool false, .int .i64 0, .int .u64 0, .int .u64 0, .int .i64 0, .int .i64 0, .string ⟨#[]⟩, .int .u32 0, .int .i64 0]) 9 80 Try.underlying51 hi hz0 hz1 hz2 rfl (by decide) v5 l.length (cellsC l) rfl OZ ⟨w5.heap.size, 0, none⟩ 1 1 (wdC zC) rfl rfl NZ (wd_cell zC) (by omega) (by unfold maxLen; omega) (by omega) (by simp; omega) _ rfl ?_; intro g6 cap6 w6 O6 G6 _ _))
    have OB : OwnC w6 w4.heap.size (.slice (some ⟨g6, 0, none⟩) (l ++ [zC]).length cap6) (l ++ [zC]) := by
      unfold OwnC; rw [cellsC_snoc, List.length_append]; exact O6
    have G4 : w4.heap.size ≤ g6 := (OB.type g6 rfl).1
    have LB := own_list OB
    have B6 : Below w4.heap.size w4 w6 := ((BA.out.trans HZ5.out).alloc (by omega) _).grown G6 (by simp; omega) (fun j hj => ((show OwnC _ w4.heap.size v5 l from OZ).type j hj).1)
    have OKB : okL (l ++ [zC]) := fun y hy => by
      rcases List.mem_append.1 hy with hy | hy
      · exact OKL.out y hy
      · rw [List.mem_singleton.1 hy]; exact ⟨by show I64 0; unfold I64; decide, by show Fits 0; unfold Fits; decide, by show I64 0; unfold I64; decide, by show I64 0; unfold I64; decide, by decide, by decide, by show I64 0; unfold I64; decide⟩
    have D12 : ∀ i, New w1 w2 i → i < w3.heap.size := fun i hk => Nat.lt_of_lt_of_le hk.2 S23.out
    have DW : ∀ i, i < w.heap.size → ¬ New w1 w2 i ∧ ¬ New w2 w3 i := fun i hi => ⟨fun hk => by have := hk.1; have := S01.out; omega, fun hk => by have := hk.1; have := S02.out; omega⟩
    have AP1 : Hid (Calls Try.prog 22 #[Pt t, .slice (some ⟨g6, 0, none⟩) (l.length + 1) cap6] w6 (fun e W' => e = .returned (.int .i64 (applyE L (l ++ [zC]) : Nat)) ∧ Kp w6 W' t (New w1 w2) L)) := hide (by
      have := (Kp.start (T4.out.below B6)).apply (cap := cap6) OKB (by rw [List.length_append]; show l.length + 1 ≤ 2000; omega) LB (fun b o e _ hk => by
        cases e
        have := D12 _ hk
        have := S34.out
        omega)
      rw [List.length_append, bad_list] at this
      exact this)
    have NE1 := hide (bad_err l L)
    have U6 := hide (C4.out.below B6)
    have L6 := hide (L4.out.step B6)
    have LQ6 := hide (LQ.out.step (chain B4.out B6))
    have B66 := hide (chain B4.out B6)
    have D12' := hide D12
    have S36 := hide (Nat.le_trans S34.out B6.size)
    have DW' := hide DW
    clear OB LB B6 OKB D12 DW O6 G6 OZ NZ SZ5 HZ5 T4 C4 L4 B4 BA OM LQ4 mk G4
    generalize applyE L (l ++ [zC]) = er0 at *
    go_wp2_with fail
    refine AP1.out.mono ?_
    rintro e w7 ⟨rfl, hK7⟩
    have K7 := hide hK7
    have ne0 : ¬ (er0 : Int) = 0 := by have := NE1.out; omega
    have ne1 : ((er0 : Int) == 0) = false := by rw [beq_eq_false_iff_ne]; exact ne0
    have AL7 := hide (all_any hK7.2)
    clear AP1 NE1 hK7
    go_wp2_with fail
    refine AL7.out.mono ?_
    rintro e w8 ⟨v8, rfl, hr8, hb8⟩
    obtain ⟨p8, c8, rfl, hl8, _⟩ := hr8.lst
    have SA := hide (same_any p8 q1 c8 c1 L (by unfold maxLen; omega) w8 hl8 ((L6.out.fr2 K7.out.1 (fun b o e hn hk => by have := (N4.out b o e hn).1; have := D12'.out b hk; omega)).step hb8))
    have K8 := hide (K7.out.below hb8)
    clear hr8 hl8 hb8 AL7 K7
    go_wp2_with fail
    refine SA.out.mono ?_
    rintro e w9 ⟨rfl, hb9⟩
    have K9 := hide (K8.out.below hb9)
    have AP2 := hide (K9.out.apply (cap := c) OKL.out (by omega) LQ6.out (fun b o e hn => (DW'.out b (LQ.out.lt hn e)).1))
    clear hb9 SA K8 K9 ne0 ne1
    have XL := hide (show applyE L l ≠ 0 → applyL L l = L from fun h => by unfold applyL; rw [if_neg h])
    have XG := hide (show applyE L l = 0 → applyL L l = applyG L l from fun h => by unfold applyL; rw [if_pos h])
    have XE := hide (rfl : applyE L l = applyE L l)
    generalize hM : applyL L l = M at *
    clear hM
    obtain ⟨er, hE⟩ : ∃ er, applyE L l = er := ⟨_, rfl⟩
    have HE := hide hE
    rw [hE] at AP2 XL XG
    clear hE XE
    go_wp2_with fail
    refine AP2.out.mono ?_
    rintro e wx ⟨rfl, hKx⟩
    have TX := hide hKx.2
    have KX := hide hKx
    have UX := hide (Kp.start (U6.out.fr hKx.1 (fun i hi hk => by have := hi.1; have := hk.2; omega)))
    have LQX := hide (LQ6.out.fr2 hKx.1 (fun b o e hn => (DW'.out b (LQ.out.lt hn e)).1))
    have LX := hide (L6.out.fr2 hKx.1 (fun b o e hn hk => by have := (N4.out b o e hn).1; have := D12'.out b hk; omega))
    have S6X := hide hKx.1.size
    have BX := hide (B66.out.trans (hKx.1.below B66.out.size (fun i hk => by
      rcases Nat.lt_or_ge i w.heap.size with h | h
      · exact ((DW'.out i h).1 hk).elim
      · exact h)))
    clear hKx AP2 U6 L6 LQ6
    go_wp2_with fail
    go_loopw [10, 11] (fun f i wr => ∃ (k fe : Nat) (N : List Ls), k ≤ l.length ∧ f = .int .i64 (fe : Nat) ∧ i = .int .i64 (k : Nat) ∧ Hid (Kp wx wr u (New w2 w3) N) ∧ Hid (fe = applyE L (l.take k) ∧ (fe = 0 → N = applyG L (l.take k)) ∧ (fe ≠ 0 → er = fe))) (fun _ i => fun _ => l.length - (intOf i).toNat)
    case atStart => exact ⟨0, 0, L, Nat.zero_le _, rfl, rfl, UX, hide ⟨rfl, fun _ => rfl, fun h => absurd rfl h⟩⟩
    case round =>
      clear UX
      obtain ⟨k, fe, N, hk, rfl, rfl, HU, HF⟩ := hrel
      have hk0 : (0 : Int) ≤ (k : Int) := by omega
      by_cases hgo : k < l.length ∧ fe = 0
      · obtain ⟨h1, rfl⟩ := hgo
        obtain ⟨x, hx⟩ : ∃ x, l[k]? = some x := ⟨_, List.getElem?_eq_getElem h1⟩
        have hlt2 : (k : Int) < (l.length : Int) := by omega
        obtain ⟨b, o, rfl, hat⟩ := LQX.out k x hx
        have cutR := fun W => cut_run b o l.length c k h1 HCL.out W
        obtain ⟨m1, m2, m3⟩ := whole_step hx HF.out.1.symm (HF.out.2.1 rfl)
        have APU : Hid (Calls Try.prog 22 #[Pt u, .slice (some ⟨b, o + k * 9, none⟩) 1 (c - k)] wr (fun e W' => e = .returned (.int .i64 (applyE N [x] : Nat)) ∧ Kp wx W' u (New w2 w3) (applyL N [x]))) :=
          hide (HU.out.apply (cs := [x]) (cap := c - k) (okL_one (OKL.out x (List.mem_of_getElem? hx))) (by simp) (lst_one LQX.out hx) (fun b2 o2 e _ => by
            cases e
            exact (DW'.out b (LQ.out.lt (List.ne_nil_of_mem (List.mem_of_getElem? hx)) rfl)).2))
        have M1 := hide m1
        have M2 := hide m2
        have M3 := hide m3
        clear hat hx m1 m2 m3 HU HF
        generalize applyE N [x] = fn at *
        generalize applyL N [x] = Nn at *
        go_wp2_with fail
        refine APU.out.mono ?_
        rintro e w11 ⟨rfl, hU⟩
        have HU := hide hU
        clear hU APU cutR
        go_wp2
        go_roundw
        case rel => exact ⟨k + 1, fn, Nn, h1, rfl, by go_num, HU, hide ⟨M1.out, M2.out, fun h => HE.out.symm.trans (M3.out h)⟩⟩
        case measure => simp [intOf]; omega
      · have ER : Hid (fe = er) := hide (by
          by_cases h0 : fe = 0
          · have hkl : k = l.length := by
              rcases Nat.lt_or_ge k l.length with h | h
              · exact absurd ⟨h, h0⟩ hgo
              · omega
            rw [HF.out.1, hkl, List.take_length]; exact HE.out
          · exact (HF.out.2.2 h0).symm)
        have NG : Hid (er = 0 → N = applyG L l) := hide (fun h0 => by
          have h1 : fe = 0 := by rw [ER.out]; exact h0
          have hkl : k = l.length := by
            rcases Nat.lt_or_ge k l.length with h | h
            · exact absurd ⟨h, h1⟩ hgo
            · omega
          have := HF.out.2.1 h1
          rw [hkl, List.take_length] at this
          exact this)
        have TT := hide ((TX.out.fr HU.out.1 (fun i hi hk => by
          have h1 := hk.1
          have h2 := hk.2
          have := S36.out
          rcases hi with hi | hi
          · have := hi.2; omega
          · have := hi.1; omega)).tells)
        have UT := hide HU.out.2.tells
        have LB := hide (LX.out.fr2 HU.out.1 (fun b o e hn hk => by have := (N4.out b o e hn).1; have := hk.2; omega))
        have BE := hide (BX.out.trans (HU.out.1.below BX.out.size (fun i hk => by
          rcases Nat.lt_or_ge i w.heap.size with h | h
          · exact ((DW'.out i h).2 hk).elim
          · exact h)))
        have EXIT : Hid (((k : Int) < (l.length : Int) ∧ ¬ (fe : Int) = 0) ∨ ¬ (k : Int) < (l.length : Int)) := hide (by
          by_cases h : k < l.length
          · exact Or.inl ⟨by omega, fun e => hgo ⟨h, by omega⟩⟩
          · exact Or.inr (by omega))
        obtain rfl := ER.out
        have HM3 := HU.out.2.tabL.good.size
        have HM2 := TX.out.tabL.good.size
        clear hgo HU HF TX KX LQX LX S6X BX LQ OKL HE ER
        by_cases h0 : fe = 0
        · subst h0
          obtain rfl : M = N := (XG.out rfl).trans (NG.out rfl).symm
          clear XL XG NG
          have hx2 : ¬ (k : Int) < (l.length : Int) := by
            rcases EXIT.out with ⟨_, h⟩ | h
            · exact absurd rfl h
            · exact h
          clear EXIT
          go_wp2_with fail
          refine (TT.out.all _ (Below.refl _ _)).mono ?_
          rintro e w12 ⟨v12, rfl, hr12, hb12⟩
          obtain ⟨p12, c12, rfl, hl12, _⟩ := hr12.lst
          have L12 := hide hl12
          have B12 := hide hb12
          clear hr12 hl12 hb12
          go_wp2_with fail
          refine (UT.out.all _ B12.out).mono ?_
          rintro e w13 ⟨v13, rfl, hr13, hb13⟩
          obtain ⟨p13, c13, rfl, hl13, _⟩ := hr13.lst
          have SB := hide (same_any p12 p13 c12 c13 M (by unfold maxLen; omega) w13 (L12.out.step hb13) hl13)
          have B13 := hide (chain B12.out hb13)
          clear hr13 hl13 hb13 L12 B12
          go_wp2_with fail
          refine SB.out.mono ?_
          rintro e w14 ⟨rfl, hb14⟩
          have B14 := hide (chain B13.out hb14)
          clear hb14 SB B13
          go_wp2
          go_ret
          exact ⟨rfl, chain BE.out B14.out⟩
        · obtain rfl : M = L := XL.out h0
          have hz1 : ¬ (fe : Int) = 0 := by omega
          have hz2 : ((fe : Int) != 0) = true := by rw [bne_iff_ne]; exact hz1
          have hz3 : ((fe : Int) == 0) = false := by rw [beq_eq_false_iff_ne]; exact hz1
          clear XL XG NG h0
          rcases EXIT.out with ⟨hx2, hx3⟩ | hx2
          all_goals
            clear EXIT
            go_wp2_with fail
            refine (TT.out.all _ (Below.refl _ _)).mono ?_
            rintro e w12 ⟨v12, rfl, hr12, hb12⟩
            obtain ⟨p12, c12, rfl, hl12, _⟩ := hr12.lst
            have B12 := hide hb12
            have SB := hide (same_any p12 q1 c12 c1 M (by unfold maxLen; omega) w12 hl12 (LB.out.step hb12))
            clear hr12 hl12 hb12
            go_wp2_with fail
            refine SB.out.mono ?_
            rintro e w14 ⟨rfl, hb14⟩
            have B14 := hide (chain B12.out hb14)
            clear hb14 SB B12
            go_wp2
            go_ret
            exact ⟨rfl, chain BE.out B14.out⟩
  · have h300i : (l.length : Int) > 300 := by omega
    have END : Hid (Gives (.bool true) w (.returned (.bool true)) w1) := hide ⟨rfl, B1.out⟩
    clear F2
    go_wp2
    go_ret
    exact END.out
end Go.Proofs.Ytpldkgollhbolaa
