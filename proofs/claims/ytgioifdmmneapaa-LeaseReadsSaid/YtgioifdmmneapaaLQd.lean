/-
  The contract of the document's own Decode: it returns what the program's returns. Condition: the bytes are no longer than an int.
-/
import Derived.Test.YtgioifdmmneapaaLQt
import Derived.Test.YtgioifdmmneapaaLQe
namespace Go.Proofs.Ytgioifdmmneapaa
open Go.RowKit Go.Joins

theorem errS_ne {e x : Int} {ok : Bool} (h : e ≠ 0) : errS e ok x = e := by
  unfold errS; rw [if_neg h]; split <;> rfl
theorem chN_nat {s : ByteArray} {a : Int} (h : chE s a = 0) (h0 : 0 ≤ a) : ∃ n : Nat, chN s a = (n : Int) ∧ n ≤ s.size ∧ (n : Int) ≤ a + 65600 := by
  have h1 := chN_range h
  have h2 := chN_any (s := s) h0
  exact ⟨(chN s a).toNat, by omega, by omega, by omega⟩
theorem dec_many {s : ByteArray} (h : 2048 < getV 2 s 0) : decE s = 6 ∧ decL s = [] := by
  unfold decE decL; rw [if_pos h, if_pos h]; exact ⟨rfl, rfl⟩
theorem dec_none {s : ByteArray} (h : cutO s 0 2 = false) : decE s = 3 ∧ decL s = [] := by
  have hv := getV_no h
  have e : decT s = ([], 2, 3) := by unfold decT; rw [hv, h]; rfl
  have f : finE s (decT s) = 3 := by rw [e]; unfold finE; rw [errS_ne (e := errS _ _ _) (by rw [errS_ne (by decide)]; decide), errS_ne (by decide)]
  unfold decE decL
  rw [hv, if_neg (by decide), if_neg (by decide), f]
  exact ⟨rfl, if_neg (by decide)⟩
theorem dec_fin {s : ByteArray} {t : List Ch × Int × Int} {x : Int} (h : ¬ 2048 < getV 2 s 0) (ht : decT s = t) (hx : finE s t = x) : decE s = x ∧ decL s = if x = 0 then t.1 else [] := by
  unfold decE decL; rw [if_neg h, if_neg h, ht, hx]; exact ⟨rfl, rfl⟩
theorem fin_bad {s : ByteArray} {l : List Ch} {a e : Int} (h : e ≠ 0) : finE s (l, a, e) = e := by
  unfold finE; show errS (errS e _ 5) _ 80 = e; rw [errS_ne (e := errS e _ 5) (by rw [errS_ne h]; exact h), errS_ne h]
theorem fin_tail {s : ByteArray} {l : List Ch} {a : Int} (h : a < (s.size : Int)) : finE s (l, a, 0) = 5 := by
  unfold finE; show errS (errS 0 (!decide (a < (s.size : Int))) 5) _ 80 = 5; rw [decide_eq_true h]; exact errS_ne (by decide)
theorem fin_end {s : ByteArray} {l : List Ch} {a : Int} (h : ¬ a < (s.size : Int)) : finE s (l, a, 0) = if wrongL l = true then 80 else 0 := by
  unfold finE; show errS (errS 0 (!decide (a < (s.size : Int))) 5) (!wrongL l) 80 = _; rw [decide_eq_false h]; cases wrongL l <;> rfl

theorem wd_atn (W : World) (c : Ch) (t : TypeId) {n : Nat} (hn : n = W.heap.size) : ∀ j u, (wdC c)[j]? = some u → (W.alloc (.cells #[.bool c.gone, .int .i64 c.l.kind, .int .u64 (hi c.l.p : Nat), .int .u64 (lo c.l.p : Nat), .int .i64 c.l.n, .int .i64 c.l.st, .string c.l.cl, .int .u32 (c.l.ia : Int), .int .i64 c.l.un] t)).cell? ((⟨n, 0, none⟩ : Go.Addr).add j) = some u := by
  subst hn; exact wd_at W c t

set_option maxRecDepth 100000 in
set_option maxHeartbeats 4000000 in
theorem rdec_any (s : ByteArray) (hs : s.size ≤ maxLen) (w : World) :
    Calls Try.prog 23 #[.string s] w (Dec w (decL s) (decE s)) := by
  have hs2 := hs
  unfold maxLen at hs2
  have G0 := hide (fun W => get16_ref s hs (a := 0) (by unfold I64; omega) W)
  have hn : getV 2 s 0 < 65536 := getV_lt 2 s 0
  cases hc : cutO s 0 2 with
  | false =>
    have K := dec_none hc
    have K3 := hide K.1
    have K4 := hide K.2
    rw [hc, getV_no hc] at G0
    clear K hc hn hs2
    go_enter Try.func23, Try.ntmps23
    go_wp2_with fail
    refine (G0.out _).mono ?_
    rintro e v ⟨rfl, rfl⟩
    go_wp2
    go_ret2
    refine ⟨none, 0, ?_, ?_, Below.refl _ _⟩
    · exact congrArg Ending.returned (tup2 (by rw [K4.out]; rfl) (i64_eq K3.out.symm))
    · rw [K4.out]; intro k c hk; cases hk
  | true =>
    have h2s := (cut_true hc).2.2
    by_cases h1 : 2048 < getV 2 s 0
    · have K := dec_many h1
      have K3 := hide K.1
      have K4 := hide K.2
      have h2 : 2048 < ((getV 2 s 0 : Nat) : Int) := by omega
      rw [hc] at G0
      generalize getV 2 s 0 = n at *
      clear K hc h1
      go_enter Try.func23, Try.ntmps23
      go_wp2_with fail
      refine (G0.out _).mono ?_
      rintro e v ⟨rfl, rfl⟩
      go_wp2
      go_ret2
      refine ⟨none, 0, ?_, ?_, Below.refl _ _⟩
      · exact congrArg Ending.returned (tup2 (by rw [K4.out]; rfl) (i64_eq K3.out.symm))
      · rw [K4.out]; intro k c hk; cases hk
    · have DF : Hid (∀ (t : List Ch × Int × Int) (x : Int), decT s = t → finE s t = x → decE s = x ∧ decL s = if x = 0 then t.1 else []) := hide (fun t x => dec_fin h1)
      have DT : Hid (decT s = decN s (getV 2 s 0) [] 2 0) := hide (by unfold decT; rw [hc]; rfl)
      have h2 : ¬ 2048 < ((getV 2 s 0 : Nat) : Int) := by omega
      rw [hc] at G0
      obtain ⟨i0, hi0, hz0, hz1, hz2⟩ := info_parts infoC
      generalize getV 2 s 0 = n at *
      generalize decT s = tt at *
      have W1 : IntKind.i64.wrap (n : Int) = (n : Int) := IntWalk.i64_in _ ⟨by omega, by omega⟩
      clear hc hn
      go_enter Try.func23, Try.ntmps23
      go_wp2_with fail
      refine (G0.out _).mono ?_
      rintro e v ⟨rfl, rfl⟩
      go_wp2_with fail
      go_loopw [6, 7, 8] (fun v ai ii wr => ∃ (l : List Ch) (p : Option Go.Addr) (c a : Nat), v = .slice p l.length c ∧ ai = .int .i64 (a : Nat) ∧ ii = .int .i64 (l.length : Nat) ∧ l.length ≤ n ∧ Hid (tt = decN s (n - l.length) l (a : Int) 0) ∧ Hid (okL l) ∧ Hid (OwnC wr w.heap.size (.slice p l.length c) l) ∧ Below w.heap.size w wr ∧ a ≤ s.size ∧ a ≤ 2 + 65600 * l.length) (fun _ _ ii _ => n - (intOf ii).toNat)
      case atStart => exact ⟨[], some ⟨w.heap.size, 0, none⟩, 0, 2, rfl, rfl, rfl, Nat.zero_le _, DT, hide (fun c hc => by cases hc), hide (World.ownsRow_lit (base := w.heap.size) (e := 31) (size := 9) w #[] 0 (Nat.le_refl _) (by omega) rfl), below_alloc _ _, by omega, by simp⟩
      case round =>
        clear DT
        obtain ⟨l, p, c, a, rfl, rfl, rfl, hln, HT, HO, HW, HB, ha0, ha1⟩ := hrel
        by_cases hlt : l.length < n
        · have hlt2 : (l.length : Int) < (n : Int) := by omega
          have hk0 : (0 : Int) ≤ (l.length : Int) := by omega
          have HT2 := hide (show tt = decN s (n - (l.length + 1)) (l ++ [chC s (a : Int)]) (chN s (a : Int)) (chE s (a : Int)) by
            rw [HT.out, show n - l.length = (n - (l.length + 1)) + 1 by omega, decN_go])
          by_cases he : chE s (a : Int) = 0
          · have CO := hide (fun W => one_ok hs ha0 (by omega) he W)
            obtain ⟨a2, ea, hn0, hn1⟩ := chN_nat he (by omega)
            rw [he] at HT2
            have HO2 := hide (show okL (l ++ [chC s (a : Int)]) from fun x hx => by
              rcases List.mem_append.1 hx with h | h
              · exact HO.out x h
              · rw [List.mem_singleton.1 h]; exact chC_ok s (a : Int))
            rw [ea] at HT2 CO
            generalize chC s (a : Int) = x at *
            clear HT he ea
            go_wp2_with fail
            refine (CO.out _).mono ?_
            rintro e3 w3 ⟨rfl, hb3⟩
            have B3 := HB.trans (hb3.mono HB.size)
            have O3 := own_frC HW.out (Fr.ofBelow hb3) (fun _ _ e => e)
            have O4 : ((w3.alloc (.cells #[.bool x.gone, .int .i64 x.l.kind, .int .u64 (hi x.l.p : Nat), .int .u64 (lo x.l.p : Nat), .int .i64 x.l.n, .int .i64 x.l.st, .string x.l.cl, .int .u32 (x.l.ia : Int), .int .i64 x.l.un] 31)).alloc (.cells #[.bool x.gone, .int .i64 x.l.kind, .int .u64 (hi x.l.p : Nat), .int .u64 (lo x.l.p : Nat), .int .i64 x.l.n, .int .i64 x.l.st, .string x.l.cl, .int .u32 (x.l.ia : Int), .int .i64 x.l.un] 31)).ownsRow w.heap.size 31 9 (.slice p l.length c) l.length (cellsC l) := World.ownsRow.alloc (World.ownsRow.alloc O3 _) _
            have B4 := B3.trans (((below_alloc w3 (.cells #[.bool x.gone, .int .i64 x.l.kind, .int .u64 (hi x.l.p : Nat), .int .u64 (lo x.l.p : Nat), .int .i64 x.l.n, .int .i64 x.l.st, .string x.l.cl, .int .u32 (x.l.ia : Int), .int .i64 x.l.un] 31)).mono B3.size))
            have B5 := B4.trans ((below_alloc (w3.alloc (.cells #[.bool x.gone, .int .i64 x.l.kind, .int .u64 (hi x.l.p : Nat), .int .u64 (lo x.l.p : Nat), .int .i64 x.l.n, .int .i64 x.l.st, .string x.l.cl, .int .u32 (x.l.ia : Int), .int .i64 x.l.un] 31)) (.cells #[.bool x.gone, .int .i64 x.l.kind, .int .u64 (hi x.l.p : Nat), .int .u64 (lo x.l.p : Nat), .int .i64 x.l.n, .int .i64 x.l.st, .string x.l.cl, .int .u32 (x.l.ia : Int), .int .i64 x.l.un] 31)).mono B4.size)
            have z4 : w.heap.size ≤ ((w3.alloc (.cells #[.bool x.gone, .int .i64 x.l.kind, .int .u64 (hi x.l.p : Nat), .int .u64 (lo x.l.p : Nat), .int .i64 x.l.n, .int .i64 x.l.st, .string x.l.cl, .int .u32 (x.l.ia : Int), .int .i64 x.l.un] 31)).alloc (.cells #[.bool x.gone, .int .i64 x.l.kind, .int .u64 (hi x.l.p : Nat), .int .u64 (lo x.l.p : Nat), .int .i64 x.l.n, .int .i64 x.l.st, .string x.l.cl, .int .u32 (x.l.ia : Int), .int .i64 x.l.un] 31)).heap.size := B5.size
            have z3 := B3.size
            have LTO := hide (fun k (hk : (Value.slice p l.length c).ownBlock = some k) => (O4.lt k hk).1)
            clear HW CO hb3 O3 HB B3 B4
            go_wp2_with (at_builtin; refine wpList_append_lies _ rfl (.tmp 39) (.tmp 41) 39 rfl w.heap.size 31 i0 (.agg #[.bool false, .int .i64 0, .int .u64 0, .int .u64 0, .int .i64 0, .int .i64 0, .string ⟨#[]⟩, .int .u32 0, .int .i64 0]) 9 80 Try.underlying39 hi0 hz0 hz1 hz2 rfl (by decide) _ _ _ rfl O4 ⟨w3.heap.size + 1, 0, none⟩ 1 1 (wdC x) rfl rfl (wd_atn (w3.alloc (.cells #[.bool x.gone, .int .i64 x.l.kind, .int .u64 (hi x.l.p : Nat), .int .u64 (lo x.l.p : Nat), .int .i64 x.l.n, .int .i64 x.l.st, .string x.l.cl, .int .u32 (x.l.ia : Int), .int .i64 x.l.un] 31)) x 31 (World.size_alloc w3 _).symm) (wd_cell x) (by omega) (by unfold maxLen; omega) (by omega) z4 _ rfl ?_; intro g2 cap2 w5 O5 G5 _ _)
            have B6 := B5.grown G5 B5.size (fun j hj => by have := LTO.out j hj; omega)
            go_wp2
            go_roundw
            case rel =>
              refine ⟨l ++ [x], some ⟨g2, 0, none⟩, cap2, a2, by rw [List.length_append]; rfl, rfl, by rw [List.length_append]; rfl, by rw [List.length_append]; exact hlt, by rw [List.length_append]; exact HT2, HO2, hide ?_, B6, hn0, by rw [List.length_append]; show a2 ≤ 2 + 65600 * (l.length + 1); omega⟩
              unfold OwnC
              rw [cellsC_snoc, List.length_append]; exact O5
            case measure => simp [intOf]; omega
          · have CB := hide (fun W => one_bad hs ha0 (by omega) W)
            have K := DF.out _ (chE s (a : Int)) HT2.out (by rw [decN_stop he]; exact fin_bad he)
            rw [if_neg he] at K
            have NE : (chE s (a : Int) != 0) = true := by simp only [bne_iff_ne]; exact he
            generalize chE s (a : Int) = e2 at *
            have K3 := hide K.1
            have K4 := hide K.2
            clear HT HT2 K
            go_wp2_with fail
            refine (CB.out _).mono ?_
            rintro e3 w3 ⟨c3, n3, rfl, hb3⟩
            have B3 := HB.trans (hb3.mono HB.size)
            clear hb3 HB CB
            go_wp2
            go_ret2
            refine ⟨none, 0, ?_, ?_, B3.alloc B3.size _⟩
            · exact congrArg Ending.returned (tup2 (by rw [K4.out]; rfl) (i64_eq K3.out.symm))
            · rw [K4.out]; intro k c hk; cases hk
        · have hlt2 : ¬ (l.length : Int) < (n : Int) := by omega
          have TT : tt = (l, (a : Int), 0) := by rw [HT.out, show n - l.length = 0 by omega]; rfl
          clear HT
          by_cases hat : (a : Int) < (s.size : Int)
          · have K := DF.out _ _ TT (fin_tail hat)
            have K3 := hide K.1
            have K4 := hide (show decL s = [] by rw [K.2]; exact if_neg (by decide))
            clear K TT
            go_wp2
            go_ret2
            refine ⟨none, 0, ?_, ?_, HB⟩
            · exact congrArg Ending.returned (tup2 (by rw [K4.out]; rfl) (i64_eq K3.out.symm))
            · rw [K4.out]; intro k c hk; cases hk
          · have KE : Hid (∀ r, wrongL l = r → decE s = (if r = true then 80 else 0) ∧ decL s = (if r = true then [] else l)) := hide (fun r e => by
              have K := DF.out _ _ TT (fin_end hat)
              rw [e] at K
              cases r
              · exact ⟨K.1, K.2⟩
              · exact ⟨K.1, K.2⟩)
            have LL := hide (own_list HW.out)
            have hlen : l.length ≤ 2048 := by omega
            have hlen0 : (l.length : Int) ≤ 2048 := by omega
            clear TT HW DF
            go_wp2_with fail
            go_loopw [12] (fun i wq => ∃ k : Nat, k ≤ l.length ∧ i = .int .i64 (k : Nat) ∧ Hid (∀ (j : Nat) (y : Ch), j < k → l[j]? = some y → changeS y = true) ∧ Hid (LstC p l wq) ∧ Below w.heap.size w wq) (fun i _ => l.length - (intOf i).toNat)
            case atStart => exact ⟨0, Nat.zero_le _, rfl, hide (fun j y h => absurd h (Nat.not_lt_zero _)), LL, HB⟩
            case round =>
              clear HB LL
              obtain ⟨k, hk, rfl, HG, HL, HB⟩ := hrel
              by_cases hkl : k < l.length
              · obtain ⟨x, hx⟩ := get_some hkl
                have okx := HO.out x (List.mem_of_getElem? hx)
                have CX := hide (fun W => rchangeC_any x okx.p W)
                obtain ⟨b, o, ep, x0, x1, x2, x3, x4, x5, x6, x7, x8⟩ := HL.out k x hx
                rw [ep] at HL
                subst ep
                have hkl2 : (k : Int) < (l.length : Int) := by omega
                have hk0 : (0 : Int) ≤ (k : Int) := by omega
                cases hcx : changeS x with
                | false =>
                  have K := KE.out true (wrong_yes hx hcx)
                  have K3 := hide (show decE s = 80 from K.1)
                  have K4 := hide (show decL s = [] from K.2)
                  rw [hcx] at CX
                  clear hx hcx K
                  go_wp2_with fail
                  refine (CX.out _).mono ?_
                  rintro e w3 ⟨rfl, hb3⟩
                  go_wp2
                  go_ret2
                  refine ⟨none, 0, ?_, ?_, HB.trans (hb3.mono HB.size)⟩
                  · exact congrArg Ending.returned (tup2 (by rw [K4.out]; rfl) (i64_eq K3.out.symm))
                  · rw [K4.out]; intro k c hk; cases hk
                | true =>
                  rw [hcx] at CX
                  have HG2 := hide (show ∀ (j : Nat) (y : Ch), j < k + 1 → l[j]? = some y → changeS y = true from fun j y hj hy => by
                    by_cases e : j = k
                    · subst e
                      rw [hx] at hy
                      cases hy
                      exact hcx
                    · exact HG.out j y (by omega) hy)
                  clear hx hcx
                  go_wp2_with fail
                  refine (CX.out _).mono ?_
                  rintro e w3 ⟨rfl, hb3⟩
                  have HL2 := hide (HL.out.step hb3)
                  have B3 := HB.trans (hb3.mono HB.size)
                  clear hb3 x0 x1 x2 x3 x4 x5 x6 x7 x8
                  go_wp2
                  go_roundw
                  case rel => exact ⟨k + 1, hkl, rfl, HG2, HL2, B3⟩
                  case measure => simp [intOf]; omega
              · have e : k = l.length := by omega
                have K := KE.out false (wrong_no (l := l) (fun j x hj => HG.out j x (by have := (List.getElem?_eq_some_iff.1 hj).1; omega) hj))
                have K3 := hide (show decE s = 0 from K.1)
                have K4 := hide (show decL s = l from K.2)
                have hkl2 : ¬ (k : Int) < (l.length : Int) := by omega
                clear e K
                go_wp2
                go_ret2
                refine ⟨p, c, ?_, ?_, HB⟩
                · exact congrArg Ending.returned (tup2 (by rw [K4.out]; rfl) (i64_eq K3.out.symm))
                · rw [K4.out]; exact HL.out
end Go.Proofs.Ytgioifdmmneapaa
