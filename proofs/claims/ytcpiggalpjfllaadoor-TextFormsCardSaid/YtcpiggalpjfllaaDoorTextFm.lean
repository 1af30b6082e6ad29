/-
  The walk of the law TextForms: it returns true. Condition: the library's variables hold what is laid.
-/
import Derived.Test.YtcpiggalpjfllaaDoorTextB
namespace Go.Proofs.YtcpiggalpjfllaaDoor
open Go.RowKit Go.Joins

theorem prs_snoc : ∀ (l : List UInt8) (c : UInt8), prs (l ++ [c]) = prs l + if l.getLast? = some 58 ∧ c = 58 then 1 else 0
  | [], c => by simp [prs]
  | [a], c => by
    rw [List.singleton_append, prs_cons]
    simp [prs]
  | a :: b :: r, c => by
    have ih := prs_snoc (b :: r) c
    rw [List.cons_append, List.cons_append, prs_cons, prs_cons, ← List.cons_append, ih, List.getLast?_cons_cons]
    omega
theorem prs_take {l : List UInt8} {k : Nat} {c : UInt8} (h : l[k]? = some c) : prs (l.take (k + 1)) = prs (l.take k) + if (0 < k ∧ l[k - 1]? = some 58) ∧ c = 58 then 1 else 0 := by
  have e : l.take (k + 1) = l.take k ++ [c] := by rw [List.take_add_one, h]; rfl
  have g : (l.take k).getLast? = if 0 < k then l[k - 1]? else none := by
    have hk : k < l.length := by
      rcases Nat.lt_or_ge k l.length with h' | h'
      · exact h'
      · rw [List.getElem?_eq_none h'] at h; cases h
    rw [List.getLast?_eq_getElem?, List.length_take, List.getElem?_take]
    rw [show min k l.length = k by omega]
    by_cases h0 : 0 < k
    · rw [if_pos (by omega), if_pos h0]
    · rw [if_neg (by omega), if_neg h0]
  rw [e, prs_snoc, g]
  congr 1
  by_cases h0 : 0 < k
  · simp [h0]
  · simp [h0]

theorem three_cells0 {g : Nat} {W : World} (h : Three g 0 0 W) : g < W.heap.size ∧ (W.cell? ⟨g, 0, none⟩ = some (.int .u64 0) ∧ W.cell? ⟨g, 1, none⟩ = some (.int .u64 0) ∧ W.cell? ⟨g, 2, none⟩ = some (.int .i64 0)) ∧ W.frozen? ⟨g, 0, none⟩ = false ∧ W.frozen? ⟨g, 1, none⟩ = false ∧ W.frozen? ⟨g, 2, none⟩ = false := h
/-- what PutPrefix of the zero prefix and GetPrefix of its text give -/
def Again0 (fam : Int) (t : ByteArray) (o : Bool) : Prop :=
  (∀ W, VO W → Calls Tryd.prog 23 #[.int .i64 fam, .agg #[.int .u64 0, .int .u64 0, .int .i64 0]] W (Gives (.string t) W)) ∧ (∀ W, VO W → Calls Tryd.prog 14 #[.int .i64 fam, .string t] W (Gives (.tuple #[.agg #[.int .u64 0, .int .u64 0, .int .i64 0], .bool o]) W))
theorem again0 (fam : Int) (hf : fam = 4 ∨ fam = 6) : ∃ t o, Again0 fam t o := by
  by_cases h : ppL fam 0 0 = []
  · obtain ⟨k1, k2⟩ := blank_of fits_zero hf h
    exact ⟨_, _, k1, k2⟩
  · obtain ⟨t, k1, k2, _⟩ := shown_of fits_zero h
    exact ⟨t, true, k1, k2⟩
theorem gp_no {fam : Int} {s : ByteArray} (h : gpO fam s = false) : gpV fam s = .agg #[.int .u64 0, .int .u64 0, .int .i64 0] := by
  unfold gpV
  rw [h]
  rfl
theorem gp_yes {fam : Int} {s : ByteArray} (h : gpO fam s = true) : ∃ (a : Nat) (b : Int), Fits a ∧ gpV fam s = Pv a b ∧ soundS a b = true ∧ ∃ t, Shown fam a b t := by
  obtain ⟨h1, h2⟩ := pp_gp h
  refine ⟨gV fam (slL s), gpN fam s, gV_fits fam _, ?_, h2, shown_of (gV_fits fam _) h1⟩
  unfold gpV
  rw [h, if_pos rfl]
/-- what an address's text looks like -/
def Looks (t : ByteArray) : Prop := t.size ≤ 39 ∧ prs t.data.toList ≤ 1 ∧ ∀ (k : Nat) (h : k < t.size), ¬ (65 ≤ (t[k].toNat : Int) ∧ (t[k].toNat : Int) ≤ 70)
theorem looks_put (a : Nat) : Looks ⟨(put6L a).toArray⟩ := by
  obtain ⟨h1, h2, h3⟩ := put6_look a
  refine ⟨h1, h2, fun k h e => ?_⟩
  have hm : (ByteArray.mk (put6L a).toArray)[k] ∈ put6L a := by
    have : (ByteArray.mk (put6L a).toArray)[k] = (put6L a)[k]'h := rfl
    rw [this]
    exact List.getElem_mem _
  exact h3 _ hm (by omega)

theorem byte_at {t : ByteArray} {k : Nat} (h : k < t.size) : t.data.toList[k]? = some t[k] := by
  rw [List.getElem?_eq_getElem (show k < t.data.toList.length from h)]
  rfl
theorem is58 (b : UInt8) : b = 58 ↔ b.toNat = 58 := by
  constructor
  · intro h; rw [h]; rfl
  · intro h; exact UInt8.toNat_inj.1 h
theorem prs_at {t : ByteArray} {k : Nat} (h : k < t.size) : prs (t.data.toList.take (k + 1)) = prs (t.data.toList.take k) + if 0 < k ∧ t[k].toNat = 58 ∧ (t[k - 1]'(by omega)).toNat = 58 then 1 else 0 := by
  rw [prs_take (byte_at h), byte_at (show k - 1 < t.size by omega)]
  congr 1
  simp only [Option.some.injEq, is58]
  by_cases a : 0 < k ∧ t[k].toNat = 58 ∧ (t[k - 1]'(by omega)).toNat = 58
  · rw [if_pos a, if_pos ⟨⟨a.1, a.2.2⟩, a.2.1⟩]
  · rw [if_neg a, if_neg (fun e => a ⟨e.1.1, e.2, e.1.2⟩)]
theorem prs_le (t : ByteArray) (k : Nat) : prs (t.data.toList.take k) ≤ k := by
  have : ∀ l : List UInt8, prs l ≤ l.length := by
    intro l
    induction l with
    | nil => exact Nat.le_refl _
    | cons a r ih =>
      cases r with
      | nil => simp [prs]
      | cons b r =>
        rw [prs_cons]
        simp only [List.length_cons] at ih ⊢
        split <;> omega
  have h := this (t.data.toList.take k)
  have := List.length_take_le k t.data.toList
  omega

set_option maxRecDepth 100000 in
set_option maxHeartbeats 2000000 in
theorem forms_any (s : ByteArray) (w : World) (hv : VO w) :
    Calls Tryd.prog 5 #[.string s] w (Gives (.bool true) w) := by
  have AW := hide (fun W hV => awake2_any W hV)
  by_cases hl : (s.size : Int) > 65536
  · go_enter Tryd.func5, Tryd.ntmps5
    go_wp2_with fail
    refine (AW.out _ hv).mono ?_
    rintro e w1 ⟨rfl, hb1⟩
    go_wp2_with fail
    refine (AW.out _ (VO.step hb1 hv)).mono ?_
    rintro e w2 ⟨rfl, hb2⟩
    go_wp2
    go_ret
    exact ⟨rfl, chain hb1 hb2⟩
  · have hs : Lim s.size := by unfold Lim; omega
    have G4 := hide (getprefix_any 4 s hs)
    have G6 := hide (getprefix_any 6 s hs)
    have GA := hide (get6_any s hs)
    clear hs
    go_enter Tryd.func5, Tryd.ntmps5
    go_wp2_with fail
    refine (AW.out _ hv).mono ?_
    rintro e w1 ⟨rfl, hb1⟩
    go_wp2
    go_loopw [3] (fun i wr => Ix012 i ∧ Below w.heap.size w wr) (fun i _ => 2 - (intOf i).toNat)
    case atStart => exact ⟨Or.inl rfl, hb1⟩
    case round =>
      obtain ⟨hi, HB⟩ := hrel
      clear hb1
      have IX := hide ix_fam
      rcases hi with rfl | rfl | rfl
      · have I0 := fun W => (IX.out W).1
        clear IX
        cases ho : gpO 4 s with
        | false =>
          obtain ⟨t, o, z1, z2⟩ := again0 4 (Or.inl rfl)
          have z1 := hide z1
          have z2 := hide z2
          have G := hide (fun W hV => via (G4.out W hV) (v' := .tuple #[.agg #[.int .u64 0, .int .u64 0, .int .i64 0], .bool false]) (by rw [gp_no ho, ho]))
          clear ho
          go_wp2_with fail
          refine (G.out _ (VO.step HB hv)).mono ?_
          rintro e w2 ⟨rfl, hb2⟩
          have HB2 := chain HB hb2
          clear hb2 HB
          have T2 := three_zero w2 33
          have HB3 := chain HB2 (below_alloc w2 (.cells #[.int .u64 0, .int .u64 0, .int .i64 0] 33))
          clear HB2
          go_wp2_with fail
          refine (z1.out _ (VO.step HB3 hv)).mono ?_
          rintro e w3 ⟨rfl, hb3⟩
          have HB4 := chain HB3 hb3
          have T3 := T2.step hb3
          clear hb3 HB3 T2
          go_wp2_with fail
          refine (z2.out _ (VO.step HB4 hv)).mono ?_
          rintro e w4 ⟨rfl, hb4⟩
          have HB5 := chain (chain HB4 hb4) (below_alloc w4 (.cells #[.int .u64 0, .int .u64 0, .int .i64 0] 33))
          have T4 := T3.step hb4
          clear hb4 HB4 T3
          obtain ⟨r0, ⟨r1, r2, r3⟩, r4, r5, r6⟩ := three_cells0 T4
          go_wp2
          go_roundw
          case rel => exact ⟨Or.inr (Or.inl rfl), HB5⟩
          case measure => simp [intOf]
        | true =>
          obtain ⟨a, b, fa, gv, sd, t, k1, k2, k3⟩ := gp_yes ho
          have k1 := hide k1
          have k2 := hide k2
          have SD := hide (fun W => via (sound_any fa b W) (v' := .bool true) (by rw [sd]))
          have G := hide (fun W hV => via (G4.out W hV) (v' := .tuple #[Pv a b, .bool true]) (by rw [gv, ho]))
          clear ho gv sd k3
          go_wp2_with fail
          refine (G.out _ (VO.step HB hv)).mono ?_
          rintro e w2 ⟨rfl, hb2⟩
          have HB2 := chain HB hb2
          clear hb2 HB
          have T2 := three_new w2 a b 33
          have HB3 := chain HB2 (below_alloc w2 (.cells #[.int .u64 (hi a : Nat), .int .u64 (lo a : Nat), .int .i64 b] 33))
          clear HB2
          go_wp2_with fail
          refine (k1.out _ (VO.step HB3 hv)).mono ?_
          rintro e w3 ⟨rfl, hb3⟩
          have HB4 := chain HB3 hb3
          have T3 := T2.step hb3
          clear hb3 HB3 T2
          go_wp2_with fail
          refine (k2.out _ (VO.step HB4 hv)).mono ?_
          rintro e w4 ⟨rfl, hb4⟩
          have HB5 := chain (chain HB4 hb4) (below_alloc w4 (.cells #[.int .u64 (hi a : Nat), .int .u64 (lo a : Nat), .int .i64 b] 33))
          have T4 := T3.step hb4
          clear hb4 HB4 T3
          obtain ⟨r0, ⟨r1, r2, r3⟩, r4, r5, r6⟩ := id T4
          go_wp2_with fail
          refine (SD.out _).mono ?_
          rintro e w5 ⟨rfl, hb5⟩
          have HB6 := chain HB5 hb5
          clear hb5 HB5 r0 r1 r2 r3 r4 r5 r6
          go_wp2
          go_roundw
          case rel => exact ⟨Or.inr (Or.inl rfl), HB6⟩
          case measure => simp [intOf]
      · have I0 := fun W => (IX.out W).2
        clear IX
        cases ho : gpO 6 s with
        | false =>
          obtain ⟨t, o, z1, z2⟩ := again0 6 (Or.inr rfl)
          have z1 := hide z1
          have z2 := hide z2
          have G := hide (fun W hV => via (G6.out W hV) (v' := .tuple #[.agg #[.int .u64 0, .int .u64 0, .int .i64 0], .bool false]) (by rw [gp_no ho, ho]))
          clear ho
          go_wp2_with fail
          refine (G.out _ (VO.step HB hv)).mono ?_
          rintro e w2 ⟨rfl, hb2⟩
          have HB2 := chain HB hb2
          clear hb2 HB
          have T2 := three_zero w2 33
          have HB3 := chain HB2 (below_alloc w2 (.cells #[.int .u64 0, .int .u64 0, .int .i64 0] 33))
          clear HB2
          go_wp2_with fail
          refine (z1.out _ (VO.step HB3 hv)).mono ?_
          rintro e w3 ⟨rfl, hb3⟩
          have HB4 := chain HB3 hb3
          have T3 := T2.step hb3
          clear hb3 HB3 T2
          go_wp2_with fail
          refine (z2.out _ (VO.step HB4 hv)).mono ?_
          rintro e w4 ⟨rfl, hb4⟩
          have HB5 := chain (chain HB4 hb4) (below_alloc w4 (.cells #[.int .u64 0, .int .u64 0, .int .i64 0] 33))
          have T4 := T3.step hb4
          clear hb4 HB4 T3
          obtain ⟨r0, ⟨r1, r2, r3⟩, r4, r5, r6⟩ := three_cells0 T4
          go_wp2
          go_roundw
          case rel => exact ⟨Or.inr (Or.inr rfl), HB5⟩
          case measure => simp [intOf]
        | true =>
          obtain ⟨a, b, fa, gv, sd, t, k1, k2, k3⟩ := gp_yes ho
          have k1 := hide k1
          have k2 := hide k2
          have SD := hide (fun W => via (sound_any fa b W) (v' := .bool true) (by rw [sd]))
          have G := hide (fun W hV => via (G6.out W hV) (v' := .tuple #[Pv a b, .bool true]) (by rw [gv, ho]))
          clear ho gv sd k3
          go_wp2_with fail
          refine (G.out _ (VO.step HB hv)).mono ?_
          rintro e w2 ⟨rfl, hb2⟩
          have HB2 := chain HB hb2
          clear hb2 HB
          have T2 := three_new w2 a b 33
          have HB3 := chain HB2 (below_alloc w2 (.cells #[.int .u64 (hi a : Nat), .int .u64 (lo a : Nat), .int .i64 b] 33))
          clear HB2
          go_wp2_with fail
          refine (k1.out _ (VO.step HB3 hv)).mono ?_
          rintro e w3 ⟨rfl, hb3⟩
          have HB4 := chain HB3 hb3
          have T3 := T2.step hb3
          clear hb3 HB3 T2
          go_wp2_with fail
          refine (k2.out _ (VO.step HB4 hv)).mono ?_
          rintro e w4 ⟨rfl, hb4⟩
          have HB5 := chain (chain HB4 hb4) (below_alloc w4 (.cells #[.int .u64 (hi a : Nat), .int .u64 (lo a : Nat), .int .i64 b] 33))
          have T4 := T3.step hb4
          clear hb4 HB4 T3
          obtain ⟨r0, ⟨r1, r2, r3⟩, r4, r5, r6⟩ := id T4
          go_wp2_with fail
          refine (SD.out _).mono ?_
          rintro e w5 ⟨rfl, hb5⟩
          have HB6 := chain HB5 hb5
          clear hb5 HB5 r0 r1 r2 r3 r4 r5 r6
          go_wp2
          go_roundw
          case rel => exact ⟨Or.inr (Or.inr rfl), HB6⟩
          case measure => simp [intOf]
      · cases hg : get6 s with
        | none =>
          obtain ⟨e1, e2⟩ := get6_none hg
          have G := hide (fun W hV => via (GA.out W hV) (v' := .tuple #[.agg #[.int .u64 0, .int .u64 0], .bool false]) (by rw [e1, e2]; rfl))
          clear e1 e2 hg
          go_wp2_with fail
          refine (G.out _ (VO.step HB hv)).mono ?_
          rintro e w2 ⟨rfl, hb2⟩
          have HB2 := chain (chain HB hb2) (below_alloc w2 (.cells #[.int .u64 0, .int .u64 0] 28))
          clear hb2 HB
          go_wp2
          go_ret
          exact ⟨rfl, HB2⟩
        | some a =>
          have fa : Fits a := by
            have := g6V_fits s
            rwa [(get6_some hg).1] at this
          obtain ⟨e1, e2⟩ := get6_some hg
          have G := hide (fun W hV => via (GA.out W hV) (v' := .tuple #[A a, .bool true]) (by rw [e1, e2]))
          have P6 := hide (show ∀ W, VO W → Calls Tryd.prog 21 #[A a] W (Gives (.string ⟨(put6L a).toArray⟩) W) from put6_any fa)
          have B6 := hide (show ∀ W, VO W → Calls Tryd.prog 10 #[.string ⟨(put6L a).toArray⟩] W (Gives (.tuple #[A a, .bool true]) W) from back6 fa)
          have LK := looks_put a
          clear e1 e2 hg
          generalize (⟨(put6L a).toArray⟩ : ByteArray) = t at P6 B6 LK
          obtain ⟨l1, l2, l3⟩ := LK
          have L2 := hide l2
          have L3 := hide l3
          clear l2 l3
          go_wp2_with fail
          refine (G.out _ (VO.step HB hv)).mono ?_
          rintro e w2 ⟨rfl, hb2⟩
          have HB2 := chain (chain HB hb2) (below_alloc w2 (.cells #[.int .u64 (hi a : Nat), .int .u64 (lo a : Nat)] 28))
          have T2 := two_new w2 a 28
          clear hb2 HB
          go_wp2_with fail
          refine (P6.out _ (VO.step HB2 hv)).mono ?_
          rintro e w3 ⟨rfl, hb3⟩
          have HB3 := chain HB2 hb3
          have T3 := T2.step hb3
          clear hb3 HB2 T2
          go_wp2_with fail
          refine (B6.out _ (VO.step HB3 hv)).mono ?_
          rintro e w4 ⟨rfl, hb4⟩
          have HB4 := chain (chain HB3 hb4) (below_alloc w4 (.cells #[.int .u64 (hi a : Nat), .int .u64 (lo a : Nat)] 28))
          have T4 := T3.step hb4
          have U4 := two_new w4 a 28
          have T5 := T4.step (below_alloc w4 (.cells #[.int .u64 (hi a : Nat), .int .u64 (lo a : Nat)] 28))
          clear hb4 HB3 T3 T4
          go_wp2
          generalize hW : w4.alloc (.cells #[.int .u64 (hi a : Nat), .int .u64 (lo a : Nat)] 28) = w5 at HB4 U4 T5 ⊢
          clear hW
          go_loop [13, 14] (fun q i => ∃ k : Nat, k ≤ t.size ∧ i = .int .i64 (k : Nat) ∧ q = .int .i64 (prs (t.data.toList.take k) : Nat)) (fun _ i => t.size - (intOf i).toNat)
          case atStart => exact ⟨0, Nat.zero_le _, rfl, rfl⟩
          case round =>
            obtain ⟨k, hk, rfl, rfl⟩ := hrel
            by_cases hlt : k < t.size
            · have hb := prs_at hlt
              have hle := prs_le t k
              have hA := L3.out k hlt
              by_cases h58 : t[k].toNat = 58
              · have E : ((t[k].toNat : Int) == 58) = true := by simp; omega
                have A65 : ¬ 65 ≤ (t[k].toNat : Int) := by omega
                clear hA
                by_cases h0 : k = 0
                · have R := hide (hb.trans (by rw [if_neg (fun e => by omega), Nat.add_zero]))
                  have K0 : ¬ 0 < (k : Int) := by omega
                  clear hb h58 h0
                  go_wp2_with fail
                  go_round
                  case rel => exact ⟨k + 1, hlt, by go_num, by rw [R.out]⟩
                  case measure => simp [intOf]; omega
                · have K0 : 0 < (k : Int) := by omega
                  have B0 : 0 ≤ (k : Int) - 1 := by omega
                  have B1 : 1 ≤ (k : Int) := by omega
                  have T1 : k - 1 < t.size := by omega
                  have W1 : wrap64 (((prs (t.data.toList.take k) : Nat) : Int) + 1) = ((prs (t.data.toList.take k) + 1 : Nat) : Int) := by
                    rw [IntWalk.wrap64_in _ ⟨by omega, by omega⟩]; rfl
                  by_cases p58 : (t[k - 1]'T1).toNat = 58
                  · have E2 : (((t[k - 1]'T1).toNat : Int) == 58) = true := by simp; omega
                    have R := hide (hb.trans (by rw [if_pos ⟨by omega, h58, p58⟩]))
                    clear hb h58 h0 p58
                    go_wp2_with fail
                    go_round
                    case rel => exact ⟨k + 1, hlt, by go_num, by rw [R.out]; go_num⟩
                    case measure => simp [intOf]; omega
                  · have E2 : (((t[k - 1]'T1).toNat : Int) == 58) = false := by simp; omega
                    have R := hide (hb.trans (by rw [if_neg (fun e => p58 e.2.2), Nat.add_zero]))
                    clear hb h58 h0 p58
                    go_wp2_with fail
                    go_round
                    case rel => exact ⟨k + 1, hlt, by go_num, by rw [R.out]⟩
                    case measure => simp [intOf]; omega
              · have E : ((t[k].toNat : Int) == 58) = false := by simp; omega
                have R := hide (hb.trans (by rw [if_neg (fun e => h58 e.2.1), Nat.add_zero]))
                clear hb h58
                by_cases h0 : 0 < (k : Int)
                all_goals
                  by_cases A65 : 65 ≤ (t[k].toNat : Int)
                  · have F70 : ¬ (t[k].toNat : Int) ≤ 70 := fun e => hA ⟨A65, e⟩
                    clear hA
                    go_wp2_with fail
                    go_round
                    case rel => exact ⟨k + 1, hlt, by go_num, by rw [R.out]⟩
                    case measure => simp [intOf]; omega
                  · clear hA
                    go_wp2_with fail
                    go_round
                    case rel => exact ⟨k + 1, hlt, by go_num, by rw [R.out]⟩
                    case measure => simp [intOf]; omega
            · have e : k = t.size := by omega
              subst e
              have R := hide (show ((prs (t.data.toList.take t.size) : Nat) : Int) ≤ 1 by rw [List.take_of_length_le (by exact Nat.le_refl _)]; have := L2.out; omega)
              have R1 := R.out
              have R0 : (t.size : Int) ≤ 39 := by omega
              obtain ⟨q0, q1, q2, _, _⟩ := id T5
              obtain ⟨u0, u1, u2, _, _⟩ := id U4
              go_wp2
              go_ret
              exact ⟨rfl, HB4⟩
end Go.Proofs.YtcpiggalpjfllaaDoor
