/-
  The contract of the document's own GetPrefix. Conditions: the text has at most 65536 bytes; the contract of the document's own Get6 is a premise (Six), which is proved apart.
-/
import Derived.Test.YtmapcllmiomelaaDoorTextG7
import Derived.Test.YtmapcllmiomelaaDoorTextRd
namespace Go.Proofs.YtmapcllmiomelaaDoor
open Go.RowKit Go.Joins

theorem numO_slash {l : List UInt8} (h : l = [] ∨ 47 ∈ l) : numO l = false := by
  refine (gnum_none (gnum_no ?_)).2
  rcases h with h | h
  · exact Or.inl h
  · exact Or.inr (Or.inr (Or.inr ⟨47, h, by decide⟩))
theorem gpO_num {fam : Int} {s : ByteArray} (h : numO (slR s).data.toList = false) : gpO fam s = false := by
  unfold gpO
  rw [h, Bool.false_and, Bool.and_false]
theorem slash_S (fam : Int) (s : ByteArray) : splitS 47 s = [slL s, slR s] ∨ ((splitS 47 s).length ≠ 2 ∧ gpO fam s = false) := by
  by_cases hc : (47 : UInt8) ∈ s.data.toList
  · obtain ⟨p, r, e, hn⟩ := cut_at hc
    have hx : Lib.cut s.data.toList [47] = (p, r, true) := by
      unfold Lib.cut
      rw [e, index_hit1 47 p r hn, if_pos (by omega), Int.toNat_natCast]
      simp
    have eR : (slR s).data.toList = r := by unfold slR; rw [hx]
    have eL : (slL s).data.toList = p := by unfold slL; rw [hx]
    by_cases hr : (47 : UInt8) ∈ r
    · refine Or.inr ⟨?_, gpO_num (by rw [eR]; exact numO_slash (Or.inr hr))⟩
      obtain ⟨p2, r2, e2, hn2⟩ := cut_at hr
      have h1 := splitA_pos 47 r2
      rw [← List.length_map (f := (·.data.toList)), splitS_data, e, splitA_hit r hn, e2, splitA_hit r2 hn2, List.length_cons, List.length_cons]
      omega
    · refine Or.inl (data_inj ?_)
      rw [splitS_data, e, splitA_hit r hn, splitA_no hr, List.map_cons, List.map_cons, List.map_nil, eL, eR]
  · refine Or.inr ⟨?_, gpO_num (numO_slash (Or.inl ?_))⟩
    · rw [← List.length_map (f := (·.data.toList)), splitS_data, splitA_no hc]
      simp
    · unfold slR Lib.cut
      rw [index_miss1 47 _ hc, if_neg (by omega)]
theorem gp_big {fam : Int} {s : ByteArray} (h : 128 < gpN fam s) : soundS (gV fam (slL s)) (gpN fam s) = false := by
  cases e : soundS (gV fam (slL s)) (gpN fam s) with
  | false => rfl
  | true => have := (sound_bounds e).2; omega

set_option maxRecDepth 100000 in
set_option maxHeartbeats 4000000 in
theorem rgetprefix_any (G6 : Six) (fam : Int) (s : ByteArray) (hs : s.size ≤ 65536) (w : World) :
    Calls Tryd.prog 15 #[.int .i64 fam, .string s] w (Gives (.tuple #[gpV fam s, .bool (gpO fam s)]) w) := by
  rcases slash_S fam s with hp | ⟨hn, ho⟩
  · have hsl : (slL s).size ≤ 65536 := Nat.le_trans (sl_len s).1 hs
    have hsr : (slR s).size ≤ 65536 := Nat.le_trans (sl_len s).2 hs
    have C0 : ∀ W : World, Calls Tryd.prog 27 #[.string s, .int .u8 47] W fun e w' => ∃ g cap : Nat, e = .returned (.slice (some ⟨g, 0, none⟩) 2 cap) ∧ Below W.heap.size W w' ∧ Row g [slL s, slR s] w' := by
      intro W
      have h := rcut_any s hs 47 W
      rw [hp] at h
      refine h.mono ?_
      rintro e w' ⟨g, cap, h1, h2, h3⟩
      exact ⟨g, cap, h1, h2, row_of_own h3⟩
    have C := hide C0
    clear C0
    have G := hide (fun W => rget_any G6 fam (slL s) hsl W)
    have M := hide (fun W => rgetnum_any (slR s) W)
    have nb := numV_bounds (slR s).data.toList
    have BIG := hide (gp_big (fam := fam) (s := s))
    have S := hide (fun W => Rf.rsound_any (gV_fits fam (slL s)) (gpN fam s) W)
    have B := hide (show gpN fam s = numV (slR s).data.toList + outS fam from rfl)
    have RO := hide (show gpO fam s = (gO fam (slL s) && (numO (slR s).data.toList && soundS (gV fam (slL s)) (gpN fam s))) from rfl)
    have RV := hide (show gpV fam s = if gpO fam s then Pv (gV fam (slL s)) (gpN fam s) else Pv 0 0 from rfl)
    clear hsl hsr hp
    generalize slL s = xl at *
    generalize slR s = xr at *
    generalize soundS (gV fam xl) (gpN fam s) = sd at *
    generalize gV fam xl = a at *
    generalize gO fam xl = ao at *
    generalize numV xr.data.toList = nv at *
    generalize numO xr.data.toList = no at *
    go_enter Tryd.func15, Tryd.ntmps15
    go_wp2_with fail
    refine (C.out _).mono ?_
    rintro e w1 ⟨g, cap, rfl, hb1, hr1⟩
    have HB1 := chain (below_alloc w _) hb1
    have T1 := (three_zero w 33).step hb1
    have k0 := hr1 0 xl rfl
    clear hb1
    go_wp2_with fail
    refine (G.out _).mono ?_
    rintro e w2 ⟨rfl, hb2⟩
    have HB2 := chain HB1 hb2
    have T2 := T1.step hb2
    have hr2 := hr1.step hb2
    clear hb2 T1 HB1 k0 hr1
    have HB3 := chain HB2 (below_alloc w2 (.cells #[.int .u64 (hi a : Nat), .int .u64 (lo a : Nat)] 28))
    have T3 := T2.step (below_alloc w2 (.cells #[.int .u64 (hi a : Nat), .int .u64 (lo a : Nat)] 28))
    have hr3 := hr2.step (below_alloc w2 (.cells #[.int .u64 (hi a : Nat), .int .u64 (lo a : Nat)] 28))
    have Q3 := two_new w2 a 28
    have gle : w.heap.size < w2.heap.size := T2.1
    have k1 := hr3 1 xr rfl
    clear hr2 hr3
    go_wp2_with fail
    clear k1
    generalize w2.heap.size = q at Q3 gle ⊢
    refine (M.out _).mono ?_
    rintro e w4 ⟨rfl, hb4⟩
    have HQ0 : HQ w q a w4 := ⟨chain HB3 hb4, gle, T3.step hb4, Q3.step hb4⟩
    clear hb4 T3 T2 Q3 HB3 HB2 gle C G M
    obtain ⟨_, e0, e1⟩ := hq_all HQ0
    have HB := HQ0.1
    have T1 := HQ0.2.2.1
    cases ao with
    | false =>
      have RO2 := hide (show gpO fam s = false by rw [RO.out]; rfl)
      have RV2 := hide (show gpV fam s = Pv 0 0 by rw [RV.out, RO2.out]; rfl)
      obtain ⟨r0, ⟨r1, r2, r3⟩, r4, r5, r6⟩ := id T1
      go_wp2
      refine bodyPost_ret (v := .tuple #[gpV fam s, .bool (gpO fam s)]) ?_ rfl ⟨rfl, ?_⟩
      · rw [RV2.out, RO2.out]
        simp [results, Tryd.results15, go_sem, hi_zero, lo_zero, r1, r2, r3]
      · repeat' (first | (with_reducible exact HB) | (with_reducible apply Below.drew) | (with_reducible apply Below.alloc) | (with_reducible apply Below.setCell))
        all_goals first | omega | (dsimp only; omega) | (simp; omega)
    | true =>
      cases no with
      | false =>
        have RO2 := hide (show gpO fam s = false by rw [RO.out]; rfl)
        have RV2 := hide (show gpV fam s = Pv 0 0 by rw [RV.out, RO2.out]; rfl)
        obtain ⟨r0, ⟨r1, r2, r3⟩, r4, r5, r6⟩ := id T1
        go_wp2
        refine bodyPost_ret (v := .tuple #[gpV fam s, .bool (gpO fam s)]) ?_ rfl ⟨rfl, ?_⟩
        · rw [RV2.out, RO2.out]
          simp [results, Tryd.results15, go_sem, hi_zero, lo_zero, r1, r2, r3]
        · repeat' (first | (with_reducible exact HB) | (with_reducible apply Below.drew) | (with_reducible apply Below.alloc) | (with_reducible apply Below.setCell))
          all_goals first | omega | (dsimp only; omega) | (simp; omega)
      | true =>
        have RO1 := hide (show gpO fam s = sd by rw [RO.out]; rfl)
        have o0 : 0 ≤ outS fam := by unfold outS; split <;> omega
        by_cases n1 : 128 < nv
        · have RO2 := hide (show gpO fam s = false by rw [RO1.out]; exact BIG.out (by rw [B.out]; omega))
          have RV2 := hide (show gpV fam s = Pv 0 0 by rw [RV.out, RO2.out]; rfl)
          obtain ⟨r0, ⟨r1, r2, r3⟩, r4, r5, r6⟩ := id T1
          go_wp2
          refine bodyPost_ret (v := .tuple #[gpV fam s, .bool (gpO fam s)]) ?_ rfl ⟨rfl, ?_⟩
          · rw [RV2.out, RO2.out]
            simp [results, Tryd.results15, go_sem, hi_zero, lo_zero, r1, r2, r3]
          · repeat' (first | (with_reducible exact HB) | (with_reducible apply Below.drew) | (with_reducible apply Below.alloc) | (with_reducible apply Below.setCell))
            all_goals first | omega | (dsimp only; omega) | (simp; omega)
        by_cases h4 : fam = 4
        · have E4 : (fam == 4) = true := by rw [h4]; rfl
          have O4 : outS fam = 96 := by unfold outS; rw [if_pos h4]
          have B2 := hide (show gpN fam s = 96 + nv by rw [B.out, O4]; omega)
          clear O4 h4
          by_cases n2 : 32 < nv
          · have RO2 := hide (show gpO fam s = false by rw [RO1.out]; exact BIG.out (by rw [B2.out]; omega))
            have RV2 := hide (show gpV fam s = Pv 0 0 by rw [RV.out, RO2.out]; rfl)
            obtain ⟨r0, ⟨r1, r2, r3⟩, r4, r5, r6⟩ := id T1
            go_wp2
            refine bodyPost_ret (v := .tuple #[gpV fam s, .bool (gpO fam s)]) ?_ rfl ⟨rfl, ?_⟩
            · rw [RV2.out, RO2.out]
              simp [results, Tryd.results15, go_sem, hi_zero, lo_zero, r1, r2, r3]
            · repeat' (first | (with_reducible exact HB) | (with_reducible apply Below.drew) | (with_reducible apply Below.alloc) | (with_reducible apply Below.setCell))
              all_goals first | omega | (dsimp only; omega) | (simp; omega)
          · have Q6 := three_new w4 a (96 + nv) 33
            rw [B2.out] at S RV
            have T6 := T1.step (below_alloc w4 (.cells #[.int .u64 (hi a : Nat), .int .u64 (lo a : Nat), .int .i64 (96 + nv)] 33))
            have HB6 := chain HB (below_alloc w4 (.cells #[.int .u64 (hi a : Nat), .int .u64 (lo a : Nat), .int .i64 (96 + nv)] 33))
            go_wp2_with fail
            refine (S.out _).mono ?_
            rintro e w6 ⟨rfl, hb6⟩
            have HB7 := chain HB6 hb6
            have T7 := T6.step hb6
            have Q7 := Q6.step hb6
            clear hb6 HB T1 T6 Q6 HB6
            obtain ⟨_, ⟨t1, t2, t3⟩, _⟩ := id Q7
            cases sd with
            | false =>
              have RO2 := hide (show gpO fam s = false from RO1.out)
              have RV2 := hide (show gpV fam s = Pv 0 0 by rw [RV.out, RO2.out]; rfl)
              obtain ⟨r0, ⟨r1, r2, r3⟩, r4, r5, r6⟩ := id T7
              go_wp2
              refine bodyPost_ret (v := .tuple #[gpV fam s, .bool (gpO fam s)]) ?_ rfl ⟨rfl, ?_⟩
              · rw [RV2.out, RO2.out]
                simp [results, Tryd.results15, go_sem, hi_zero, lo_zero, r1, r2, r3]
              · repeat' (first | (with_reducible exact HB7) | (with_reducible apply Below.drew) | (with_reducible apply Below.alloc) | (with_reducible apply Below.setCell))
                all_goals first | omega | (dsimp only; omega) | (simp; omega)
            | true =>
              have RO2 := hide (show gpO fam s = true from RO1.out)
              have RV2 := hide (show gpV fam s = Pv a (96 + nv) by rw [RV.out, RO2.out]; rfl)
              obtain ⟨r0, ⟨r1, r2, r3⟩, r4, r5, r6⟩ := id T7
              go_wp2
              refine bodyPost_ret (v := .tuple #[gpV fam s, .bool (gpO fam s)]) ?_ rfl ⟨rfl, ?_⟩
              · rw [RV2.out, RO2.out]
                simp [results, Tryd.results15, go_sem, hi_zero, lo_zero, r1, r2, r3]
              · repeat' (first | (with_reducible exact HB7) | (with_reducible apply Below.drew) | (with_reducible apply Below.alloc) | (with_reducible apply Below.setCell))
                all_goals first | omega | (dsimp only; omega) | (simp; omega)
        · have E4 : (fam == 4) = false := by simpa using h4
          have O4 : outS fam = 0 := by unfold outS; rw [if_neg h4]
          have B2 := hide (show gpN fam s = nv by rw [B.out, O4]; omega)
          clear O4 h4
          rw [B2.out] at S RV
          have Q6 := three_new w4 a nv 33
          have T6 := T1.step (below_alloc w4 (.cells #[.int .u64 (hi a : Nat), .int .u64 (lo a : Nat), .int .i64 nv] 33))
          have HB6 := chain HB (below_alloc w4 (.cells #[.int .u64 (hi a : Nat), .int .u64 (lo a : Nat), .int .i64 nv] 33))
          go_wp2_with fail
          refine (S.out _).mono ?_
          rintro e w6 ⟨rfl, hb6⟩
          have HB7 := chain HB6 hb6
          have T7 := T6.step hb6
          have Q7 := Q6.step hb6
          clear hb6 HB T1 T6 Q6 HB6
          obtain ⟨_, ⟨t1, t2, t3⟩, _⟩ := id Q7
          cases sd with
          | false =>
            have RO2 := hide (show gpO fam s = false from RO1.out)
            have RV2 := hide (show gpV fam s = Pv 0 0 by rw [RV.out, RO2.out]; rfl)
            obtain ⟨r0, ⟨r1, r2, r3⟩, r4, r5, r6⟩ := id T7
            go_wp2
            refine bodyPost_ret (v := .tuple #[gpV fam s, .bool (gpO fam s)]) ?_ rfl ⟨rfl, ?_⟩
            · rw [RV2.out, RO2.out]
              simp [results, Tryd.results15, go_sem, hi_zero, lo_zero, r1, r2, r3]
            · repeat' (first | (with_reducible exact HB7) | (with_reducible apply Below.drew) | (with_reducible apply Below.alloc) | (with_reducible apply Below.setCell))
              all_goals first | omega | (dsimp only; omega) | (simp; omega)
          | true =>
            have RO2 := hide (show gpO fam s = true from RO1.out)
            have RV2 := hide (show gpV fam s = Pv a nv by rw [RV.out, RO2.out]; rfl)
            obtain ⟨r0, ⟨r1, r2, r3⟩, r4, r5, r6⟩ := id T7
            go_wp2
            refine bodyPost_ret (v := .tuple #[gpV fam s, .bool (gpO fam s)]) ?_ rfl ⟨rfl, ?_⟩
            · rw [RV2.out, RO2.out]
              simp [results, Tryd.results15, go_sem, hi_zero, lo_zero, r1, r2, r3]
            · repeat' (first | (with_reducible exact HB7) | (with_reducible apply Below.drew) | (with_reducible apply Below.alloc) | (with_reducible apply Below.setCell))
              all_goals first | omega | (dsimp only; omega) | (simp; omega)
  · have C := hide (fun W : World => rcut_any s hs 47 W)
    have RO2 := hide ho
    have RV2 := hide (show gpV fam s = Pv 0 0 by unfold gpV; rw [ho]; rfl)
    have LN : (((splitS 47 s).length : Int) != 2) = true := by rw [bne_iff_ne]; omega
    clear hn ho
    go_enter Tryd.func15, Tryd.ntmps15
    go_wp2_with fail
    refine (C.out _).mono ?_
    rintro e w1 ⟨g, cap, rfl, hb1, hr1⟩
    have HB := chain (below_alloc w _) hb1
    have T1 := (three_zero w 33).step hb1
    clear hb1 hr1
    obtain ⟨r0, ⟨r1, r2, r3⟩, r4, r5, r6⟩ := id T1
    go_wp2
    refine bodyPost_ret (v := .tuple #[gpV fam s, .bool (gpO fam s)]) ?_ rfl ⟨rfl, ?_⟩
    · rw [RV2.out, RO2.out]
      simp [results, Tryd.results15, go_sem, hi_zero, lo_zero, r1, r2, r3]
    · repeat' (first | (with_reducible exact HB) | (with_reducible apply Below.drew) | (with_reducible apply Below.alloc) | (with_reducible apply Below.setCell))
      all_goals first | omega | (dsimp only; omega) | (simp; omega)
end Go.Proofs.YtmapcllmiomelaaDoor
