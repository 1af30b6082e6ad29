/-
  The law Opt6Rows: options in rows. Condition: a string is no longer than an int.
-/
import Derived.Test.YtcpldojgmboipaaSxD
namespace Go.Proofs.Ytcpldojgmboipaa
open Go.RowKit Go.Joins

theorem parse_size {s : ByteArray} {l : List Opt} (h : parseK 0 (lb s) = .ok l) : s.size ≤ 10000000 := by
  obtain ⟨h1, h2, h3⟩ := parse_ok h
  have := emit_len h2
  rw [h1, lb_len] at this
  omega
theorem parse_back_emit {s : ByteArray} {l : List Opt} (h : parseK 0 (lb s) = .ok l) : bs (emitL l) = s := by rw [(parse_ok h).1, bs_lb]
theorem rows_sum {s t : ByteArray} {a b : List Opt} (ha : parseK 0 (lb s) = .ok a) (hb : parseK 0 (lb t) = .ok b) : lb (s ++ t) = emitL (a ++ b) ∧ okO (a ++ b) := by
  obtain ⟨a1, a2, _⟩ := parse_ok ha
  obtain ⟨b1, b2, _⟩ := parse_ok hb
  exact ⟨by rw [lb_app, emitL_append, a1, b1], a2.append b2⟩
theorem rows_last {s t : ByteArray} {a b : List Opt} (ha : parseK 0 (lb s) = .ok a) (hb : parseK 0 (lb t) = .ok b) (hn : a.length + b.length ≤ 128) (ht : ¬ t.size = 0) : parseK 0 (lb (s ++ t.extract 0 (t.size - 1))) = .error 3 := by
  obtain ⟨a1, a2, _⟩ := parse_ok ha
  obtain ⟨b1, b2, _⟩ := parse_ok hb
  have hne : b ≠ [] := by
    intro e; subst e
    have := lb_len t
    rw [← b1] at this
    exact ht this.symm
  have e : lb (t.extract 0 (t.size - 1)) = (emitL b).dropLast := by
    rw [b1, List.dropLast_eq_take, lb_len]
    show (t.extract 0 (t.size - 1)).data.toList = _
    rw [ByteArray.data_extract, Array.toList_extract, List.extract_eq_take_drop, List.drop_zero, Nat.sub_zero]
  rw [lb_app, e, ← a1, parse_emit a 0 _ a2 (by omega), Nat.zero_add]
  exact addP_error (parse_last b2 hne (by omega))
set_option maxRecDepth 100000 in
set_option maxHeartbeats 8000000 in
theorem rows_any (s t : ByteArray) (hs : s.size ≤ maxLen) (ht : t.size ≤ maxLen) (w : World) :
    Calls Try.prog 7 #[.string s, .string t] w (Gives (.bool true) w) := by
  have AW := hide (fun W => awake_any W)
  cases hp : parseK 0 (lb s) with
  | error y =>
    have PS := hide (fun W => parse_not hp hs W)
    have PT := hide (fun W => parse_any ht W)
    have q : (y != 0) = true := by rcases parse_err0 hp with e | e <;> subst e <;> rfl
    generalize parE t = z at *
    clear hp hs ht
    go_enter Try.func7, Try.ntmps7
    go_wp2_with fail
    refine (AW.out _).mono ?_
    rintro e w1 ⟨rfl, hb1⟩
    go_wp2_with fail
    refine (PS.out _).mono ?_
    rintro e w2 ⟨p2, c2, rfl, _, hb2⟩
    go_wp2_with fail
    refine (PT.out _).mono ?_
    rintro e w3 ⟨v3, rfl, _, hb3⟩
    have D3 := hide (chain (chain hb1 hb2) hb3)
    clear hb1 hb2 hb3 AW PS PT
    go_wp2
    go_ret
    exact ⟨rfl, D3.out⟩
  | ok a =>
    have PS := hide (fun W => parse_yes hp hs W)
    cases hq : parseK 0 (lb t) with
    | error y =>
      have PT := hide (fun W => parse_not hq ht W)
      have q : (y != 0) = true := by rcases parse_err0 hq with e | e <;> subst e <;> rfl
      clear hp hq hs ht
      go_enter Try.func7, Try.ntmps7
      go_wp2_with fail
      refine (AW.out _).mono ?_
      rintro e w1 ⟨rfl, hb1⟩
      go_wp2_with fail
      refine (PS.out _).mono ?_
      rintro e w2 ⟨p2, c2, rfl, _, hb2⟩
      go_wp2_with fail
      refine (PT.out _).mono ?_
      rintro e w3 ⟨p3, c3, rfl, _, hb3⟩
      have D3 := hide (chain (chain hb1 hb2) hb3)
      clear hb1 hb2 hb3 AW PS PT
      go_wp2
      go_ret
      exact ⟨rfl, D3.out⟩
    | ok b =>
      have PT := hide (fun W => parse_yes hq ht W)
      have la := (parse_ok hp).2.2
      have lb' := (parse_ok hq).2.2
      have EM := hide (fun v W (h : LstO v a W) => emit_yes la (parse_ok hp).2.1 W h)
      rw [parse_back_emit hp] at EM
      have zs := parse_size hp
      have zt := parse_size hq
      obtain ⟨r1, r2⟩ := rows_sum hp hq
      have RL := hide (fun h1 h2 => rows_last hp hq h1 h2)
      have hsum : (s ++ t).size = s.size + t.size := ByteArray.size_append
      have N1 : ¬ 9223372036854775807 < s.size + t.size := by omega
      have zst : (s ++ t).size ≤ maxLen := by rw [hsum]; unfold maxLen; omega
      clear hp hq hs ht
      by_cases h128 : 128 < a.length + b.length
      · have PU := hide (fun W => parse_not (s := s ++ t) (y := 6) (by rw [r1]; exact parse_over r2 (by omega) (by rw [List.length_append]; omega)) zst W)
        have Q : (128 : Int) < (a.length : Int) + (b.length : Int) := by omega
        clear r1 r2 RL hsum zst
        go_enter Try.func7, Try.ntmps7
        go_wp2_with fail
        refine (AW.out _).mono ?_
        rintro e w1 ⟨rfl, hb1⟩
        go_wp2_with fail
        refine (PS.out _).mono ?_
        rintro e w2 ⟨p2, c2, rfl, L2, hb2⟩
        go_wp2_with fail
        refine (PT.out _).mono ?_
        rintro e w3 ⟨p3, c3, rfl, L3, hb3⟩
        have D3 := hide (chain (chain hb1 hb2) hb3)
        have A3 := hide (L2.step hb3)
        clear hb1 hb2 hb3 L2 L3 AW PS PT
        go_wp2_with fail
        refine (EM.out _ _ A3.out).mono ?_
        rintro e w4 ⟨rfl, hb4⟩
        have D4 := hide (chain D3.out hb4)
        clear hb4 D3 A3 EM
        go_wp2_with fail
        refine (PU.out _).mono ?_
        rintro e w5 ⟨p5, c5, rfl, _, hb5⟩
        have D5 := hide (chain D4.out hb5)
        clear hb5 D4 PU
        go_wp2
        go_ret
        exact ⟨rfl, D5.out⟩
      · have PU := hide (fun W => parse_yes (s := s ++ t) (l := a ++ b) (by rw [r1]; exact parse_emit0 r2 (by rw [List.length_append]; omega)) zst W)
        have Q : ¬ (128 : Int) < (a.length : Int) + (b.length : Int) := by omega
        have NL : (a ++ b).length = a.length + b.length := List.length_append
        have SA := hide (fun p c W (h : LstO (.slice p (a ++ b).length c) (a ++ b) W) => lstO_cut h (show a.length ≤ (a ++ b).length by omega))
        rw [List.take_left] at SA
        have SE := hide (fun p c W (h : LstO (.slice p (a ++ b).length c) (a ++ b) W) (hc : c = a.length) => lstO_dropE h (show a.length ≤ (a ++ b).length by omega) hc)
        have SN := hide (fun p c W (h : LstO (.slice p (a ++ b).length c) (a ++ b) W) (hc : ¬ c = a.length) => lstO_dropN h (show a.length ≤ (a ++ b).length by omega) hc)
        rw [List.drop_left] at SE SN
        have CP := hide (fun p c W (h : LstO (.slice p (a ++ b).length c) (a ++ b) W) => (lstO_cap h).2.1)
        have SY := hide (fun (va vb : Value) W (h1 : LstO va a W) (h2 : LstO vb a W) => same_yes (l := a) (by omega) W h1 h2)
        have SZ := hide (fun (va vb : Value) W (h1 : LstO va b W) (h2 : LstO vb b W) => same_yes (l := b) (by omega) W h1 h2)
        have QN : (((a ++ b).length : Int) != (a.length : Int) + (b.length : Int)) = false := by rw [NL]; simp
        have HN := hide NL
        generalize a ++ b = ab at *
        generalize hn : ab.length = n at *
        have hn := hide hn
        have na : a.length ≤ n := by have := HN.out; omega
        clear r1 r2 hsum zst NL
        go_enter Try.func7, Try.ntmps7
        go_wp2_with fail
        refine (AW.out _).mono ?_
        rintro e w1 ⟨rfl, hb1⟩
        go_wp2_with fail
        refine (PS.out _).mono ?_
        rintro e w2 ⟨p2, c2, rfl, L2, hb2⟩
        go_wp2_with fail
        refine (PT.out _).mono ?_
        rintro e w3 ⟨p3, c3, rfl, L3, hb3⟩
        have D3 := hide (chain (chain hb1 hb2) hb3)
        have A3 := hide (L2.step hb3)
        have B3 := hide L3
        clear hb1 hb2 hb3 L2 L3 AW PS PT
        go_wp2_with fail
        refine (EM.out _ _ A3.out).mono ?_
        rintro e w4 ⟨rfl, hb4⟩
        have D4 := hide (chain D3.out hb4)
        have A4 := hide (A3.out.step hb4)
        have B4 := hide (B3.out.step hb4)
        clear hb4 D3 A3 B3 EM
        go_wp2_with fail
        refine (PU.out _).mono ?_
        rintro e w5 ⟨p5, c5, rfl, L5, hb5⟩
        rw [hn.out] at L5 ⊢
        have D5 := hide (chain D4.out hb5)
        have A5 := hide (A4.out.step hb5)
        have B5 := hide (B4.out.step hb5)
        have U5 := hide L5
        have nc : n ≤ c5 := CP.out p5 c5 _ L5
        have V5 := hide (SA.out p5 c5 _ L5)
        clear hb5 D4 A4 B4 PU L5
        go_wp2_with fail
        refine (SY.out _ _ _ V5.out A5.out).mono ?_
        rintro e w6 ⟨rfl, hb6⟩
        have D6 := hide (chain D5.out hb6)
        have B6 := hide (B5.out.step hb6)
        have U6 := hide (U5.out.step hb6)
        clear hb6 D5 A5 B5 U5 V5 SY SA
        by_cases CK : c5 = a.length
        case' pos =>
          have V6 := hide (SE.out p5 c5 _ U6.out CK)
          go_wp2_with fail
        case' neg =>
          have V6 := hide (SN.out p5 c5 _ U6.out CK)
          go_wp2_with fail
        all_goals
          refine (SZ.out _ _ _ V6.out B6.out).mono ?_
          rintro e w7 ⟨rfl, hb7⟩
          have D7 := hide (chain D6.out hb7)
          clear hb7 D6 B6 U6 V6 SZ SE SN CK
          by_cases h0 : t.size = 0
          · have q0 : ((t.size : Int) == 0) = true := by rw [h0]; rfl
            clear RL
            go_wp2
            go_ret
            exact ⟨rfl, D7.out⟩
          · have q0 : ((t.size : Int) == 0) = false := by simpa using (show ¬ (t.size : Int) = 0 by omega)
            have PV := hide (fun W => parse_not (RL.out (by omega) h0) (by rw [ByteArray.size_append, ByteArray.size_extract]; unfold maxLen; omega) W)
            obtain ⟨m, hm⟩ : ∃ m : Nat, t.size = m + 1 := ⟨t.size - 1, by omega⟩
            have N2 : ¬ 9223372036854775807 < s.size + m := by omega
            rw [show t.size - 1 = m by omega] at PV
            clear RL h0
            go_wp2_with fail
            refine (PV.out _).mono ?_
            rintro e w8 ⟨p8, c8, rfl, _, hb8⟩
            have D8 := hide (chain D7.out hb8)
            clear hb8 D7 PV
            go_wp2
            go_ret
            exact ⟨rfl, D8.out⟩
end Go.Proofs.Ytcpldojgmboipaa
