/-
  The walk of the law TableCopies: it returns true. Condition: fewer than 2^63 lists in each row, of changes of their types.
-/
import Derived.Test.YtpldkgollhbolaaTbKp
namespace Go.Proofs.Ytpldkgollhbolaa
open Go.RowKit Go.Joins Go.Maps

set_option maxRecDepth 100000 in
set_option maxHeartbeats 16000000 in
theorem copies_any {ls ms : List (List Ch)} (ok : ∀ l ∈ ls, okL l) (hm : ls.length ≤ maxLen) (okm : ∀ l ∈ ms, okL l) (hmm : ms.length ≤ maxLen) {p pm : Option Go.Addr} {cap cm : Nat} (w : World) (hr : RwsC p ls w) (hq : RwsC pm ms w) :
    Calls Try.prog 6 #[.slice p ls.length cap, .slice pm ms.length cm] w (Gives (.bool true) w) := by
  have HM := hmm
  unfold maxLen at HM
  have AW := hide (awake_any w)
  have FI := hide (fun W h => filled_any ok hm (cap := cap) W (hr.step h))
  have OKM := hide okm
  have RM := hide hq
  clear ok hr hm okm hq hmm
  go_enter Try.func6, Try.ntmps6
  go_wp2_with fail
  refine AW.out.mono ?_
  rintro e w1 ⟨rfl, hb1⟩
  have F2 := hide (FI.out w1 hb1)
  have B1 := hide hb1
  clear FI hb1 AW
  go_wp2_with fail
  refine F2.out.mono ?_
  rintro e w2 ⟨t, rfl, hT⟩
  have T2 := hide hT
  have B2 := hide (chain B1.out hT.1)
  have CP := hide (copy_any hT.2)
  have S12 := hide hT.1.size
  have TL := hide hT.2.tabL
  clear hT B1 F2
  generalize fillL [] (ls.take 300) = L at *
  go_wp2_with fail
  refine CP.out.mono ?_
  rintro e w3 ⟨c, rfl, hbc, hC⟩
  have C3 := hide hC
  have T3 := hide (T2.out.2.below hbc)
  have B3 := hide (chain B2.out hbc)
  have AL := hide (all_any T3.out)
  have S23 := hide hbc.size
  have S02 := hide B2.out.size
  clear CP T2 B2 hbc hC
  go_wp2_with fail
  refine AL.out.mono ?_
  rintro e w4 ⟨v, rfl, hr, hb⟩
  obtain ⟨q1, c1, rfl, hl, hn⟩ := hr.lst
  have T4 := hide (T3.out.below hb)
  have C4 := hide (Kp.start (C3.out.below hb))
  have L4 := hide hl
  have N4 := hide hn
  have B4 := hide (chain B3.out hb)
  have H24 := TL.out.good.size
  have hlen : (L.length : Int) ≤ 1024 := by omega
  clear hr hl hn hb B3 AL T3 C3
  go_wp2_with fail
  go_loopw [8] (fun i wr => ∃ k : Nat, k ≤ ms.length ∧ k ≤ 300 ∧ i = .int .i64 (k : Nat) ∧ Hid (Kp w4 wr c (New w2 w3) (fillL L (ms.take k)))) (fun i _ => ms.length - (intOf i).toNat)
  case atStart => exact ⟨0, Nat.zero_le _, by omega, rfl, C4⟩
  case round =>
    clear C4
    obtain ⟨k, hk, hk3, rfl, HT⟩ := hrel
    have hk0 : (0 : Int) ≤ (k : Int) := by omega
    have BR : Hid (Below w.heap.size w wr) := hide (B4.out.trans (HT.out.1.below B4.out.size (fun i hi => Nat.le_trans S02.out hi.1)))
    by_cases hlt : k < ms.length ∧ k < 300
    · obtain ⟨h1, h2⟩ := hlt
      obtain ⟨l, hl⟩ : ∃ l, ms[k]? = some l := ⟨_, List.getElem?_eq_getElem h1⟩
      have hlt2 : (k : Int) < (ms.length : Int) := by omega
      have hlt3 : (k : Int) < 300 := by omega
      have TK := hide (fillL_snoc2 L ms k l hl)
      obtain ⟨b, o, q, c2, rfl, y0, y1⟩ := RM.out k l hl
      have x0 := keep_cell BR.out y0
      have okl := OKM.out l (List.mem_of_getElem? hl)
      by_cases hs : l.length ≤ 300
      · have TK2 := hide (show fillL L (ms.take (k + 1)) = applyL (fillL L (ms.take k)) l by rw [TK.out]; exact if_pos hs)
        have hs2 : (l.length : Int) ≤ 300 := by omega
        have AP := hide (HT.out.apply (cap := c2) okl (by omega) (y1.step B4.out) (fun b2 o2 e hn hk => by have := y1.lt hn e; have := hk.1; have := S02.out; omega))
        clear hl okl y0 y1 BR
        go_wp2_with fail
        refine AP.out.mono ?_
        rintro e w5 ⟨rfl, hT⟩
        have HT2 := hide hT
        clear hT x0 AP HT
        go_wp2
        go_roundw
        case rel => exact ⟨k + 1, h1, by omega, by go_num, hide (by rw [TK2.out]; exact HT2.out)⟩
        case measure => simp [intOf]; omega
      · have TK2 := hide (show fillL L (ms.take (k + 1)) = fillL L (ms.take k) by rw [TK.out]; exact if_neg hs)
        have hs2 : ¬ (l.length : Int) ≤ 300 := by omega
        clear hl okl y0 y1 BR
        go_wp2
        go_roundw
        case rel => exact ⟨k + 1, h1, by omega, by go_num, hide (by rw [TK2.out]; exact HT.out)⟩
        case measure => simp [intOf]; omega
    · have TT := hide ((T4.out.fr HT.out.1 (fun i hi e => by have := hi.2; have := e.1; omega)).tells)
      have CT := hide HT.out.2.tells
      have LB := hide (L4.out.fr2 HT.out.1 (fun b o e hne hk => by have := (N4.out b o e hne).1; have := hk.2; omega))
      generalize fillL L (ms.take k) = M at *
      have HM2 := HT.out.2.tabL.good.size
      have hlen2 : (M.length : Int) ≤ 1024 := by omega
      clear HT T4 N4 L4 RM OKM S02 S12 S23 B4
      have EXIT : Hid (((k : Int) < (ms.length : Int) ∧ ¬ (k : Int) < 300) ∨ ¬ (k : Int) < (ms.length : Int)) := hide (by omega)
      clear hlt
      rcases EXIT.out with ⟨hlt2, hlt3⟩ | hlt2
      all_goals
        clear EXIT
        go_wp2_with fail
        refine (CT.out.all _ (Below.refl _ _)).mono ?_
        rintro e w5 ⟨v5, rfl, hr5, hb5⟩
        obtain ⟨p5, c5, rfl, hl5, _⟩ := hr5.lst
        have L5 := hide hl5
        have B5 := hide hb5
        clear hr5 hl5 hb5
        go_wp2_with fail
        refine (TT.out.all _ B5.out).mono ?_
        rintro e w6 ⟨v6, rfl, hr6, hb6⟩
        obtain ⟨p6, c6, rfl, hl6, _⟩ := hr6.lst
        have B6 := hide (chain B5.out hb6)
        have SA := hide (same_any p6 q1 c6 c1 L (by unfold maxLen; omega) w6 hl6 (LB.out.step B6.out))
        have L6 := hide (L5.out.step hb6)
        clear hr6 hl6 hb6 L5 B5
        go_wp2_with fail
        refine SA.out.mono ?_
        rintro e w7 ⟨rfl, hb7⟩
        have B7 := hide (chain B6.out hb7)
        have L7 := hide (L6.out.step hb7)
        clear hb7 SA L6 B6
        go_wp2_with fail
        refine (TT.out.all _ B7.out).mono ?_
        rintro e w8 ⟨v8, rfl, hr8, hb8⟩
        obtain ⟨p8, c8, rfl, h8⟩ := hr8
        have W8 : Hid (Below w7.heap.size w7 w8 ∧ (L = [] ∨ ∃ g, p8 = some ⟨g, 0, none⟩ ∧ w7.heap.size ≤ g ∧ Wr g (L.length * 8) w8)) := hide ⟨hb8, h8.imp id (fun ⟨g, e, h1, _, h3⟩ => ⟨g, e, h1, holds_wr h3⟩)⟩
        have TT7 := hide (TT.out.step B7.out)
        have CT7 := hide (CT.out.step B7.out)
        have LB7 := hide (LB.out.step B7.out)
        have BE := hide (chain BR.out B7.out)
        clear hb8 h8 TT CT LB B7 BR
        obtain ⟨nx, nb, hnx⟩ := nexts L
        have NXA := hide hnx
        clear hnx
        go_wp2_with fail
        go_loopw [11] (fun i wz => ∃ k2 : Nat, k2 ≤ L.length ∧ i = .int .i64 (k2 : Nat) ∧ Hid (Below w7.heap.size w7 wz ∧ (L = [] ∨ ∃ g, p8 = some ⟨g, 0, none⟩ ∧ w7.heap.size ≤ g ∧ Wr g (L.length * 8) wz))) (fun i _ => L.length - (intOf i).toNat)
        case atStart => exact ⟨0, Nat.zero_le _, rfl, W8⟩
        case round =>
          clear W8
          obtain ⟨k2, hk2, rfl, HZ⟩ := hrel
          have hz0 : (0 : Int) ≤ (k2 : Int) := by omega
          by_cases hlt : k2 < L.length
          · have hlt3 : (k2 : Int) < (L.length : Int) := by omega
            obtain ⟨HZB, HZW⟩ := HZ.out
            rcases HZW with e | ⟨g, rfl, hg, hw⟩
            · subst e; cases hlt
            · have HB := hide HZB
              have HW := hide hw
              obtain ⟨⟨u0, t0⟩, f0⟩ := hw (k2 * 8) (by omega)
              obtain ⟨⟨u1, t1⟩, f1⟩ := hw (k2 * 8 + 1) (by omega)
              obtain ⟨⟨u2, t2⟩, f2⟩ := hw (k2 * 8 + 2) (by omega)
              obtain ⟨⟨u3, t3⟩, f3⟩ := hw (k2 * 8 + 3) (by omega)
              obtain ⟨⟨u4, t4⟩, f4⟩ := hw (k2 * 8 + 4) (by omega)
              obtain ⟨⟨u5, t5⟩, f5⟩ := hw (k2 * 8 + 5) (by omega)
              obtain ⟨⟨u6, t6⟩, f6⟩ := hw (k2 * 8 + 6) (by omega)
              obtain ⟨⟨u7, t7⟩, f7⟩ := hw (k2 * 8 + 7) (by omega)
              clear hw HZB HZ
              go_wp2
              go_roundw
              case rel => exact ⟨k2 + 1, hlt, by go_num, hide ⟨(((((((HB.out.setCell hg _).setCell hg _).setCell hg _).setCell hg _).setCell hg _).setCell hg _).setCell hg _).setCell hg _, Or.inr ⟨g, rfl, hg, (((((((HW.out.set _ _).set _ _).set _ _).set _ _).set _ _).set _ _).set _ _).set _ _⟩⟩⟩
              case measure => simp [intOf]; omega
          · have hlt3 : ¬ (k2 : Int) < (L.length : Int) := by omega
            have BX := hide HZ.out.1
            clear HZ
            go_wp2_with fail
            obtain ⟨_, hO⟩ := TT7.out.tab _ BX.out
            refine (NXA.out _ _ _ hO).mono ?_
            clear hO
            rintro e w9 ⟨rfl, rfl⟩
            go_wp2_with fail
            refine (TT7.out.copy _ BX.out).mono ?_
            rintro e w10 ⟨d, rfl, hb10, hD⟩
            have NX := hide (NXA.out _ _ _ hD)
            have B10 := hide (BX.out.trans (hb10.mono BX.out.size))
            clear hb10 hD BX
            go_wp2_with fail
            refine NX.out.mono ?_
            rintro e w11 ⟨rfl, rfl⟩
            clear NX
            go_wp2_with fail
            refine (TT7.out.all _ B10.out).mono ?_
            rintro e w12 ⟨v12, rfl, hr12, hb12⟩
            obtain ⟨p12, c12, rfl, hl12, _⟩ := hr12.lst
            have B12 := hide (B10.out.trans (hb12.mono B10.out.size))
            have SC := hide (same_any p12 q1 c12 c1 L (by unfold maxLen; omega) w12 hl12 (LB7.out.step B12.out))
            clear hr12 hl12 hb12 B10
            go_wp2_with fail
            refine SC.out.mono ?_
            rintro e w13 ⟨rfl, hb13⟩
            have B13 := hide (B12.out.trans (hb13.mono B12.out.size))
            clear hb13 SC B12
            go_wp2_with fail
            refine (CT7.out.all _ B13.out).mono ?_
            rintro e w14 ⟨v14, rfl, hr14, hb14⟩
            obtain ⟨p14, c14, rfl, hl14, _⟩ := hr14.lst
            have B14 := hide (B13.out.trans (hb14.mono B13.out.size))
            have SD := hide (same_any p14 p5 c14 c5 M (by unfold maxLen; omega) w14 hl14 (L7.out.step B14.out))
            clear hr14 hl14 hb14 B13
            go_wp2_with fail
            refine SD.out.mono ?_
            rintro e w15 ⟨rfl, hb15⟩
            have B15 := hide (B14.out.trans (hb15.mono B14.out.size))
            clear hb15 SD B14
            go_wp2
            go_ret
            exact ⟨rfl, chain BE.out B15.out⟩
end Go.Proofs.Ytpldkgollhbolaa
