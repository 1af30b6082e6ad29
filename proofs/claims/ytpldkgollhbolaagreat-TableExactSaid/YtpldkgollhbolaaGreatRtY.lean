/-
  The walk of the law TableExact: it returns true. Condition: fewer than 2^63 lists, of changes of their types; a lease of its type.
-/
import Derived.Test.YtpldkgollhbolaaGreatRtX
namespace Go.Proofs.YtpldkgollhbolaaGreat
open Go.RowKit Go.Joins Go.Maps

theorem leaseC_at (w : World) (x : Ls) : (w.alloc (.cells (leaseC x) 30)).heap[w.heap.size]? = some (.cells (leaseC x) 30 (0, 0)) := heap_alloc_new w _
theorem tabs_end {V W : World} {t u : Nat} {L : List Ls} (h : PD V t u L W) : (∀ W', Below W.heap.size W W' → Calls Tryz.prog 11 #[Pt t] W' (LsPost W' L)) ∧ (∀ W', Below W.heap.size W W' → Calls Tryz.prog 12 #[Pt u] W' (LsPost W' L)) ∧
    (∀ W', Below W.heap.size W W' → Calls Tryz.prog 13 #[Pt t] W' (MadePost W' L)) ∧ L.length ≤ 1024 := by
  obtain ⟨O, p, c, h1, h2, _⟩ := h
  have h24 := h1.tabL.good.size
  exact ⟨fun W' hb => all_any (h1.below hb), fun W' hb => (rall_any (h2.step hb) (by omega)).mono fun _ _ k => k.weak, fun W' hb => copy_any (h1.below hb), h24⟩
set_option maxRecDepth 100000 in
set_option maxHeartbeats 16000000 in
theorem exact_any {ls : List (List Ch)} (ok : ∀ l ∈ ls, okL l) (hm : ls.length ≤ maxLen) {ask : Ls} (oka : ask.ok) {p : Option Go.Addr} {cap : Nat} (w : World) (hr : RwsC p ls w) :
    Calls Tryz.prog 3 #[.slice p ls.length cap, Lv ask] w (Gives (.bool true) w) := by
  have HM := hm
  unfold maxLen at HM
  have OK := hide ok
  have OKA := hide oka
  have B0 := hide (below_alloc w (.cells (leaseC ask) 30))
  have HR := hide (hr.step (below_alloc w (.cells (leaseC ask) 30)))
  have AK := hide (leaseC_at w ask)
  clear ok hm oka hr
  go_enter Tryz.func3, Tryz.ntmps3
  go_upto_region 1 with fail
  generalize w.alloc (.cells (leaseC ask) 30) = V at *
  generalize hX : w.heap.size = X at AK ⊢
  clear hX
  have AW := hide (awake_any V)
  go_wp2_with fail
  refine AW.out.mono ?_
  rintro e w1 ⟨rfl, hb1⟩
  have B1 := hide hb1
  have NW := hide (new_any w1)
  clear hb1 AW
  go_wp2_with fail
  refine NW.out.mono ?_
  rintro e w2 ⟨t, rfl, hb2, hT⟩
  have T2 := hide hT
  have B2 := hide (chain B1.out hb2)
  have RN := hide (rnew_any w2)
  have S1 := hide B1.out.size
  clear hb2 hT NW B1
  go_wp2_with fail
  refine RN.out.mono ?_
  rintro e w3 ⟨u, rfl, hb3, hu3, hR3⟩
  have P3 : Hid (PD V t u [] w3) := hide ⟨New w1 w2, none, 0, T2.out.below hb3, hR3, fun k hk => Nat.le_trans S1.out hk.1, fun hk => by have := hk.2; omega, Nat.le_trans B2.out.size hu3, fun _ _ _ hne => absurd rfl hne, chain B2.out hb3⟩
  clear hb3 hu3 hR3 RN T2 B2 S1
  go_wp2_with fail
  go_loopw [7] (fun ii wr => ∃ (k : Nat) (L : List Ls), k ≤ ls.length ∧ k ≤ 300 ∧ ii = .int .i64 (k : Nat) ∧ Hid (PD V t u L wr)) (fun ii _ => ls.length - (intOf ii).toNat)
  case atStart => exact ⟨0, [], Nat.zero_le _, by omega, rfl, P3⟩
  case round =>
    clear P3
    obtain ⟨k, L, hk, hk3, rfl, HP⟩ := hrel
    have hk0 : (0 : Int) ≤ (k : Int) := by omega
    by_cases hlt : k < ls.length ∧ k < 300
    · obtain ⟨h1, h2⟩ := hlt
      obtain ⟨l, hl⟩ : ∃ l, ls[k]? = some l := ⟨_, List.getElem?_eq_getElem h1⟩
      have hlt2 : (k : Int) < (ls.length : Int) := by omega
      have hlt3 : (k : Int) < 300 := by omega
      obtain ⟨b, o, q, c, rfl, y0, y1⟩ := HR.out k l hl
      have x0 := keep_cell HP.out.bel y0
      have OKL := hide (OK.out l (List.mem_of_getElem? hl))
      have LQ := hide y1
      clear hl y0 y1
      by_cases hs : l.length ≤ 300
      · have hs2 : ¬ (300 : Int) < (l.length : Int) := by omega
        have hs3 : (l.length : Int) ≤ 300 := by omega
        have AP := hide (HP.out.apply (cap := c) OKL.out (by omega) LQ.out)
        clear HP
        go_wp2_with fail
        refine AP.out.mono ?_
        rintro e w4 ⟨rfl, hPM⟩
        have AR := hide (hPM.apply (cap := c) OKL.out (by omega) LQ.out)
        clear x0 AP hPM
        go_wp2_with fail
        refine AR.out.mono ?_
        rintro e w5 ⟨rfl, hPD⟩
        have P5 := hide hPD
        clear AR hPD
        generalize applyE L l = er at *
        generalize applyL L l = M at *
        obtain ⟨a0, a1, a2, a3, a4, a5, a6, a7⟩ : AtL X 0 ask w5 := by
          have e := (Fr.ofBelow (Below.refl V.heap.size V)).keep AK.out (fun e => e)
          have hX : X < V.heap.size := lt_of_block AK.out
          have e2 : w5.heap[X]? = V.heap[X]? := P5.out.bel.block X hX
          have e3 := e2.trans AK.out
          exact ⟨cell_at e3 0, cell_at e3 1, cell_at e3 2, cell_at e3 3, cell_at e3 4, cell_at e3 5, cell_at e3 6, cell_at e3 7⟩
        simp only [Nat.zero_add] at a1 a2 a3 a4 a5 a6 a7
        have TD := hide (P5.out.told ask OKA.out)
        go_wp2_with fail
        refine TD.out.mono ?_
        rintro e w6 ⟨rfl, hb6⟩
        have P6 := hide (P5.out.step hb6)
        clear a0 a1 a2 a3 a4 a5 a6 a7 TD hb6 P5
        go_wp2_with fail
        go_loopw [9] (fun jj wq => ∃ j : Nat, j ≤ l.length ∧ j ≤ 4 ∧ jj = .int .i64 (j : Nat) ∧ Hid (PD V t u M wq)) (fun jj _ => l.length - (intOf jj).toNat)
        case atStart => exact ⟨0, Nat.zero_le _, by omega, rfl, P6⟩
        case round =>
          clear P6
          obtain ⟨j, hj, hj4, rfl, HQ⟩ := hrel
          have hj0 : (0 : Int) ≤ (j : Int) := by omega
          by_cases hlj : j < l.length ∧ j < 4
          · obtain ⟨g1, g2⟩ := hlj
            have hlj2 : (j : Int) < (l.length : Int) := by omega
            have hlj3 : (j : Int) < 4 := by omega
            obtain ⟨x, hx⟩ : ∃ x, l[j]? = some x := ⟨_, List.getElem?_eq_getElem g1⟩
            have okx := OKL.out x (List.mem_of_getElem? hx)
            have TD := hide (HQ.out.told x.l okx)
            obtain ⟨b2, o2, rfl, z0, z1, z2, z3, z4, z5, z6, z7, z8⟩ := (LQ.out.fr2 (S := fun k => ¬ k < V.heap.size) ⟨HQ.out.bel.os, HQ.out.bel.tape, HQ.out.bel.output, HQ.out.bel.size, fun k hk hn => HQ.out.bel.block k (Classical.byContradiction fun hh => hn hh)⟩ (fun b o e hne hh => hh (LQ.out.lt hne e))) j x hx
            clear hx okx
            go_wp2_with fail
            refine TD.out.mono ?_
            rintro e w7 ⟨rfl, hb7⟩
            have P7 := hide (HQ.out.step hb7)
            clear z0 z1 z2 z3 z4 z5 z6 z7 z8 TD hb7 HQ
            go_wp2
            go_roundw
            case rel => exact ⟨j + 1, g1, by omega, by go_num, P7⟩
            case measure => simp [intOf]; omega
          · have EXIT : Hid (((j : Int) < (l.length : Int) ∧ ¬ (j : Int) < 4) ∨ ¬ (j : Int) < (l.length : Int)) := hide (by omega)
            clear hlj
            rcases EXIT.out with ⟨g1, g2⟩ | g1
            all_goals
              clear EXIT
              go_wp2
              go_roundw
              case rel => exact ⟨k + 1, M, h1, by omega, by go_num, HQ⟩
              case measure => simp [intOf]; omega
      · have hs2 : (300 : Int) < (l.length : Int) := by omega
        have END : Hid (Gives (.bool true) w (.returned (.bool true)) wr) := hide ⟨rfl, chain B0.out HP.out.bel⟩
        clear HP
        go_wp2
        go_ret
        exact END.out
    · have BE := hide (chain B0.out HP.out.bel)
      obtain ⟨ta, ua, tc, h24⟩ := tabs_end HP.out
      have TA := hide ta
      have UA := hide ua
      have TC := hide tc
      have EXIT : Hid (((k : Int) < (ls.length : Int) ∧ ¬ (k : Int) < 300) ∨ ¬ (k : Int) < (ls.length : Int)) := hide (by omega)
      clear ta ua tc HP hlt
      rcases EXIT.out with ⟨g1, g2⟩ | g1
      all_goals
        clear EXIT
        go_wp2_with fail
        refine (TA.out _ (Below.refl _ _)).mono ?_
        rintro e w4 ⟨v4, rfl, hr4, hb4⟩
        obtain ⟨p4, c4, rfl, hl4, _⟩ := hr4.lst
        have L4 := hide hl4
        have B4 := hide hb4
        clear hr4 hl4 hb4
        go_wp2_with fail
        refine (UA.out _ B4.out).mono ?_
        rintro e w5 ⟨v5, rfl, hr5, hb5⟩
        obtain ⟨p5, c5, rfl, hl5, _⟩ := hr5.lst
        have B5 := hide (chain B4.out hb5)
        have S5 := hide (same_any p4 p5 c4 c5 L (by unfold maxLen; omega) w5 (L4.out.step hb5) hl5)
        clear hr5 hl5 hb5 L4 B4
        go_wp2_with fail
        refine S5.out.mono ?_
        rintro e w6 ⟨rfl, hb6⟩
        have B6 := hide (chain B5.out hb6)
        clear hb6 S5 B5
        go_wp2_with fail
        refine (TC.out _ B6.out).mono ?_
        rintro e w7 ⟨d, rfl, hb7, hD⟩
        have AD := hide (all_any hD)
        have B7 := hide (chain B6.out hb7)
        clear hb7 hD B6
        go_wp2_with fail
        refine AD.out.mono ?_
        rintro e w8 ⟨v8, rfl, hr8, hb8⟩
        obtain ⟨p8, c8, rfl, hl8, _⟩ := hr8.lst
        have L8 := hide hl8
        have B8 := hide (chain B7.out hb8)
        clear hr8 hl8 hb8 AD B7
        go_wp2_with fail
        refine (UA.out _ B8.out).mono ?_
        rintro e w9 ⟨v9, rfl, hr9, hb9⟩
        obtain ⟨p9, c9, rfl, hl9, _⟩ := hr9.lst
        have B9 := hide (chain B8.out hb9)
        have S9 := hide (same_any p8 p9 c8 c9 L (by unfold maxLen; omega) w9 (L8.out.step hb9) hl9)
        clear hr9 hl9 hb9 L8 B8
        go_wp2_with fail
        refine S9.out.mono ?_
        rintro e w10 ⟨rfl, hb10⟩
        have B10 := hide (chain B9.out hb10)
        clear hb10 S9 B9
        go_wp2
        go_ret
        exact ⟨rfl, chain BE.out B10.out⟩
end Go.Proofs.YtpldkgollhbolaaGreat
