/-
  LeaseForm's walk. Conditions: the bytes are no longer than an int; a slice has fewer than 2^63 elements.
-/
import Derived.Test.YtgioifdmmneapaaLSm
namespace Go.Proofs.Ytgioifdmmneapaa
open Go.RowKit Go.Joins

theorem take_ext {l : List UInt8} {n : Nat} : ((ByteArray.mk l.toArray).extract 0 n).data.toList = l.take n := by simp
theorem encE_cases (l : List Ch) : (encE l = 0 ∧ ¬ 2048 < l.length ∧ wrongL l = false ∧ encV l = encL l) ∨ (encE l = 6 ∧ 2048 < l.length ∧ encV l = []) ∨ (encE l = 80 ∧ ¬ 2048 < l.length ∧ encV l = [] ∧ wrongL l = true) := by
  unfold encE encV
  by_cases h : 2048 < l.length
  · rw [if_pos h, if_pos h]; exact Or.inr (Or.inl ⟨rfl, h, rfl⟩)
  · rw [if_neg h, if_neg h]
    by_cases hw : wrongL l = true
    · rw [if_pos hw, if_pos hw]; exact Or.inr (Or.inr ⟨rfl, h, rfl, hw⟩)
    · rw [if_neg hw, if_neg hw]
      exact Or.inl ⟨rfl, h, by simpa using hw, rfl⟩
/-- the second half of the law, from a world that has the list as it was handed in: as a predicate over the ways into it -/
theorem form_facts {l : List Ch} (ok : okL l) (h0 : ¬ 2048 < l.length) (hw : wrongL l = false) : (∀ W : World, Calls Try.prog 22 #[St (encL l)] W (Dec W l 0)) ∧
    (∀ k, k < (encL l).length → ∀ W : World, Calls Try.prog 22 #[.string ((ByteArray.mk (encL l).toArray).extract 0 k)] W (fun e w' => ∃ p c n, e = .returned (.tuple #[.slice p n c, .int .i64 3]) ∧ Below W.heap.size W w')) ∧
    (∀ W : World, Calls Try.prog 22 #[.string (ByteArray.mk (encL l).toArray ++ ⟨#[120]⟩)] W (fun e w' => ∃ p c n, e = .returned (.tuple #[.slice p n c, .int .i64 5]) ∧ Below W.heap.size W w')) ∧ (encL l).length ≤ 400000 := by
  have hv := wrong_iff.1 hw
  have hle : l.length ≤ 2048 := by omega
  have hel : (encL l).length ≤ 400000 := by
    have := flat_len hv
    unfold encL
    rw [List.length_append, beL_length]
    omega
  refine ⟨fun W => ?_, fun k hk W => ?_, fun W => ?_, hel⟩
  · have hd := dec_back (s := ⟨(encL l).toArray⟩) rfl hle hv ok
    have := dec_any ⟨(encL l).toArray⟩ (by show (encL l).length ≤ maxLen; unfold maxLen; omega) W
    rw [hd.1, hd.2] at this
    exact this
  · have hd := dec_short (s := (ByteArray.mk (encL l).toArray).extract 0 k) take_ext hk hle hv ok
    have hz : ((ByteArray.mk (encL l).toArray).extract 0 k).size ≤ maxLen := by
      have e : ((ByteArray.mk (encL l).toArray).extract 0 k).data.toList.length = ((ByteArray.mk (encL l).toArray).extract 0 k).size := rfl
      rw [← e, take_ext, List.length_take]; unfold maxLen; omega
    refine (dec_any _ hz W).mono ?_
    rintro e w' ⟨p, c, rfl, _, hb⟩
    rw [hd]
    exact ⟨p, c, _, rfl, hb⟩
  · have hd := dec_tail (s := ByteArray.mk (encL l).toArray ++ ⟨#[120]⟩) (l := l) (x := 120) (by simp [ByteArray.data_append]) hle hv ok
    have hz : (ByteArray.mk (encL l).toArray ++ ⟨#[120]⟩).size ≤ maxLen := by
      rw [ByteArray.size_append]
      show (encL l).length + 1 ≤ maxLen
      unfold maxLen; omega
    refine (dec_any _ hz W).mono ?_
    rintro e w' ⟨p, c, rfl, _, hb⟩
    rw [hd]
    exact ⟨p, c, _, rfl, hb⟩
theorem first_facts (s : ByteArray) : decE s ≠ 0 ∨ (decE s = 0 ∧ encE (decL s) = 0 ∧ St (encV (decL s)) = .string s) := by
  by_cases h : decE s = 0
  · obtain ⟨h1, h2, h3⟩ := dec_form h
    right
    rcases encE_cases (decL s) with ⟨e1, _, _, e2⟩ | ⟨_, h4, _⟩ | ⟨_, _, _, h4⟩
    · refine ⟨h, e1, ?_⟩
      rw [e2, ← h3]
    · omega
    · exact absurd (h2.symm.trans h4) (by decide)
  · exact Or.inl h

set_option maxRecDepth 100000 in
set_option maxHeartbeats 4000000 in
theorem forml_any {s : ByteArray} (hs : s.size ≤ maxLen) {p : Option Go.Addr} {c : Nat} {l : List Ch} (ok : okL l) (hm : l.length ≤ maxLen) (w : World) (hl : LstC p l w) :
    Calls Try.prog 6 #[.string s, .slice p l.length c] w (Gives (.bool true) w) := by
  have D1 := hide (fun W => dec_any s hs W)
  have HL := hide hl
  have N2 := hide (fun W (h : LstC p l W) => enc_any p c l ok hm W h)
  have F1 := first_facts s
  have N1 := hide (fun q d W (h : LstC q (decL s) W) => enc_any q d (decL s) (decL_ok s) (by
    by_cases h : decE s = 0
    · have := (dec_form h).1; unfold maxLen; omega
    · unfold decL; split
      · exact Nat.zero_le _
      · rename_i h2
        unfold decE at h
        rw [if_neg h2] at h
        rw [if_neg h]; exact Nat.zero_le _) W h)
  have F2 := encE_cases l
  have F3 := hide (fun (h0 : ¬ 2048 < l.length) (hw : wrongL l = false) => form_facts ok h0 hw)
  generalize decL s = l1 at *
  generalize decE s = er at *
  clear hl hs
  go_enter Try.func6, Try.ntmps6
  go_wp2_with fail
  refine (awake_any _).mono ?_
  rintro e w1 ⟨rfl, hb1⟩
  go_wp2_with fail
  refine (D1.out _).mono ?_
  rintro e w2 ⟨p2, c2, rfl, L2, hb2⟩
  have B2 := chain hb1 hb2
  clear hb1 hb2
  rcases F1 with h | ⟨h, f1, f2⟩
  · clear L2 N1
    rcases F2 with ⟨g1, g2, g3, g4⟩ | ⟨g1, g2, g4⟩ | ⟨g1, g2, g4, _⟩
    · obtain ⟨T1, T2, T3, T4⟩ := F3.out g2 g3
      have D3 := hide T1
      have DS := hide T2
      have DX := hide T3
      rw [g1, g4] at N2
      generalize encL l = t at *
      have NX : ¬ 9223372036854775807 < t.length + 1 := by omega
      clear F3 g1 g2 g3 g4 T1 T2 T3
      go_wp2_with fail
      refine (N2.out _ (HL.out.step B2)).mono ?_
      rintro e w4 ⟨rfl, hb4⟩
      have B4 := chain B2 hb4
      clear hb4 B2
      go_wp2_with fail
      refine (D3.out _).mono ?_
      rintro e w5 ⟨p5, c5, rfl, L5, hb5⟩
      have L4 := HL.out.step (chain B4 hb5)
      have B5 := chain B4 hb5
      clear hb5 B4
      go_wp2_with fail
      refine (same_any p5 p c5 c l hm _ L5 L4).mono ?_
      rintro e w6 ⟨rfl, hb6⟩
      have B6 := chain B5 hb6
      clear hb6 B5 L5 L4
      go_wp2_with fail
      go_loopw [11] (fun i wr => ∃ k : Nat, k ≤ t.length ∧ i = .int .i64 (k : Nat) ∧ Below w.heap.size w wr) (fun i _ => t.length - (intOf i).toNat)
      case atStart => exact ⟨0, Nat.zero_le _, rfl, B6⟩
      case round =>
        clear B6
        obtain ⟨k, hk, rfl, HB⟩ := hrel
        by_cases hgo : k < t.length ∧ t.length ≤ 2000
        · obtain ⟨hlt, h2000⟩ := hgo
          have hlt2 : (k : Int) < (t.length : Int) := by omega
          have hle2 : (k : Int) ≤ (t.length : Int) := by omega
          have hk0 : (0 : Int) ≤ (k : Int) := by omega
          have h2001 : (t.length : Int) ≤ 2000 := by omega
          have DK := hide (fun W => DS.out k hlt W)
          go_wp2_with fail
          refine (DK.out _).mono ?_
          rintro e w7 ⟨p7, c7, n7, rfl, hb7⟩
          go_wp2
          go_roundw
          case rel => exact ⟨k + 1, hlt, by go_num, HB.trans (hb7.mono HB.size)⟩
          case measure => simp [intOf]; omega
        · have NS : ¬ (k : Int) < (t.length : Int) ∨ ¬ (t.length : Int) ≤ 2000 := by omega
          by_cases hlt : (k : Int) < (t.length : Int)
          · have h2001 : ¬ (t.length : Int) ≤ 2000 := by omega
            clear hgo NS
            go_wp2_with fail
            refine (DX.out _).mono ?_
            rintro e w7 ⟨p7, c7, n7, rfl, hb7⟩
            go_wp2
            go_ret
            exact ⟨rfl, HB.trans (hb7.mono HB.size)⟩
          · clear hgo NS
            go_wp2_with fail
            refine (DX.out _).mono ?_
            rintro e w7 ⟨p7, c7, n7, rfl, hb7⟩
            go_wp2
            go_ret
            exact ⟨rfl, HB.trans (hb7.mono HB.size)⟩
    · rw [g1, g4] at N2
      have g3 : 2048 < (l.length : Int) := by omega
      clear F3 g1 g2 g4
      go_wp2_with fail
      refine (N2.out _ (HL.out.step B2)).mono ?_
      rintro e w4 ⟨rfl, hb4⟩
      have B4 := chain B2 hb4
      clear hb4 B2
      go_wp2
      go_ret
      exact ⟨rfl, B4⟩
    · rw [g1, g4] at N2
      have G3 := hide (show decide (2048 < (l.length : Int)) = false from decide_eq_false (by omega))
      clear F3 g1 g2 g4
      go_wp2_with fail
      refine (N2.out _ (HL.out.step B2)).mono ?_
      rintro e w4 ⟨rfl, hb4⟩
      have B4 := chain B2 hb4
      clear hb4 B2
      go_wp2
      all_goals go_ret
      all_goals first
        | exact ⟨rfl, B4⟩
        | exact ⟨congrArg Ending.returned (bool_eq (by rw [G3.out]; rfl)), B4⟩
  · rw [f1, f2] at N1
    rw [h]
    clear h f1 f2
    go_wp2_with fail
    refine (N1.out _ _ _ L2).mono ?_
    rintro e w3 ⟨rfl, hb3⟩
    have B2 := chain B2 hb3
    clear hb3 L2
    rcases F2 with ⟨g1, g2, g3, g4⟩ | ⟨g1, g2, g4⟩ | ⟨g1, g2, g4, _⟩
    · obtain ⟨T1, T2, T3, T4⟩ := F3.out g2 g3
      have D3 := hide T1
      have DS := hide T2
      have DX := hide T3
      rw [g1, g4] at N2
      generalize encL l = t at *
      have NX : ¬ 9223372036854775807 < t.length + 1 := by omega
      clear F3 g1 g2 g3 g4 T1 T2 T3
      go_wp2_with fail
      refine (N2.out _ (HL.out.step B2)).mono ?_
      rintro e w4 ⟨rfl, hb4⟩
      have B4 := chain B2 hb4
      clear hb4 B2
      go_wp2_with fail
      refine (D3.out _).mono ?_
      rintro e w5 ⟨p5, c5, rfl, L5, hb5⟩
      have L4 := HL.out.step (chain B4 hb5)
      have B5 := chain B4 hb5
      clear hb5 B4
      go_wp2_with fail
      refine (same_any p5 p c5 c l hm _ L5 L4).mono ?_
      rintro e w6 ⟨rfl, hb6⟩
      have B6 := chain B5 hb6
      clear hb6 B5 L5 L4
      go_wp2_with fail
      go_loopw [11] (fun i wr => ∃ k : Nat, k ≤ t.length ∧ i = .int .i64 (k : Nat) ∧ Below w.heap.size w wr) (fun i _ => t.length - (intOf i).toNat)
      case atStart => exact ⟨0, Nat.zero_le _, rfl, B6⟩
      case round =>
        clear B6
        obtain ⟨k, hk, rfl, HB⟩ := hrel
        by_cases hgo : k < t.length ∧ t.length ≤ 2000
        · obtain ⟨hlt, h2000⟩ := hgo
          have hlt2 : (k : Int) < (t.length : Int) := by omega
          have hle2 : (k : Int) ≤ (t.length : Int) := by omega
          have hk0 : (0 : Int) ≤ (k : Int) := by omega
          have h2001 : (t.length : Int) ≤ 2000 := by omega
          have DK := hide (fun W => DS.out k hlt W)
          go_wp2_with fail
          refine (DK.out _).mono ?_
          rintro e w7 ⟨p7, c7, n7, rfl, hb7⟩
          go_wp2
          go_roundw
          case rel => exact ⟨k + 1, hlt, by go_num, HB.trans (hb7.mono HB.size)⟩
          case measure => simp [intOf]; omega
        · have NS : ¬ (k : Int) < (t.length : Int) ∨ ¬ (t.length : Int) ≤ 2000 := by omega
          by_cases hlt : (k : Int) < (t.length : Int)
          · have h2001 : ¬ (t.length : Int) ≤ 2000 := by omega
            clear hgo NS
            go_wp2_with fail
            refine (DX.out _).mono ?_
            rintro e w7 ⟨p7, c7, n7, rfl, hb7⟩
            go_wp2
            go_ret
            exact ⟨rfl, HB.trans (hb7.mono HB.size)⟩
          · clear hgo NS
            go_wp2_with fail
            refine (DX.out _).mono ?_
            rintro e w7 ⟨p7, c7, n7, rfl, hb7⟩
            go_wp2
            go_ret
            exact ⟨rfl, HB.trans (hb7.mono HB.size)⟩
    · rw [g1, g4] at N2
      have g3 : 2048 < (l.length : Int) := by omega
      clear F3 g1 g2 g4
      go_wp2_with fail
      refine (N2.out _ (HL.out.step B2)).mono ?_
      rintro e w4 ⟨rfl, hb4⟩
      have B4 := chain B2 hb4
      clear hb4 B2
      go_wp2
      go_ret
      exact ⟨rfl, B4⟩
    · rw [g1, g4] at N2
      have G3 := hide (show decide (2048 < (l.length : Int)) = false from decide_eq_false (by omega))
      clear F3 g1 g2 g4
      go_wp2_with fail
      refine (N2.out _ (HL.out.step B2)).mono ?_
      rintro e w4 ⟨rfl, hb4⟩
      have B4 := chain B2 hb4
      clear hb4 B2
      go_wp2
      all_goals go_ret
      all_goals first
        | exact ⟨rfl, B4⟩
        | exact ⟨congrArg Ending.returned (bool_eq (by rw [G3.out]; rfl)), B4⟩
end Go.Proofs.Ytgioifdmmneapaa
