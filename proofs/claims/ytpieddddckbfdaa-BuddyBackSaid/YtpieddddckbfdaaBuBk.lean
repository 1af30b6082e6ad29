/-
  The walk of BuddyBack: it returns true. Condition: the words are words of 64 bits, the ints ints of 64 bits (every value of the types is such).
-/
import Derived.Test.YtpieddddckbfdaaBuK
import Derived.Test.YtpieddddckbfdaaBuH
import Derived.OwnWalk
namespace Go.Proofs.Ytpieddddckbfdaa
open Go.RowKit Go.Joins

set_option maxRecDepth 100000 in
set_option maxHeartbeats 4000000 in
theorem back_any {v : Value} {p b : Bk} {l : List Bk} (fp : FitB p) (fb : FitB b) (hf : FitL l) (w : World) (hv : Lst v l w) :
    Calls Try.prog 5 #[Bv p, v, Bv b] w (Gives (.bool true) w) := by
  obtain ⟨i0, hi0, hz0, hz1, hz2⟩ := info_parts infoP
  have AW := hide (fun W => awake_any W)
  have H0 := he_new w p b hv
  obtain ⟨q, c, rfl⟩ := lst_len hv
  clear hv
  by_cases hl : 40 < l.length
  · go_enter Try.func5, Try.ntmps5
    go_wp2_with fail
    refine (AW.out _).mono ?_
    rintro e w1 ⟨rfl, hb1⟩
    have H1 := H0.step hb1
    clear H0 hb1
    go_wp2
    go_ret
    exact ⟨rfl, H1.1.1⟩
  have FV := hide (fun W v (H : Lst v l W) => free_any fp hf (show l.length ≤ 200 by omega) W H)
  have FR := hide (fun W v (H : Lst v l.reverse W) => free_any fp (fun x hx => hf x (List.mem_reverse.1 hx)) (show l.reverse.length ≤ 200 by rw [List.length_reverse]; omega) W H)
  rw [free_perm (List.reverse_perm l)] at FR
  -- what Free gives
  obtain ⟨F, E, hFE, hFl, hFf, hFc⟩ : ∃ F E, freeL p l = (F, E) ∧ F.length ≤ 6000 ∧ FitL F ∧ ((E ≠ 0 ∧ F = []) ∨ (E = 0 ∧ goodL p F = true)) := by
    rcases free_cases p l with ⟨n, h1, h2⟩ | ⟨F, h1, h2, h3, h4, h5, _⟩
    · exact ⟨[], n, h1, by simp, fun x hx => by simp at hx, Or.inl ⟨by omega, rfl⟩⟩
    · exact ⟨F, 0, h1, by omega, good_fit fp.1 h4, Or.inr ⟨rfl, h4⟩⟩
  rw [hFE] at FV FR
  clear hFE
  have SF := hide (fun W v u (H : Lst v F W) (K : Lst u F W) => same_yes rfl (show F.length ≤ 1000000 by omega) W H K)
  go_enter Try.func5, Try.ntmps5
  go_wp2_with fail
  refine (AW.out _).mono ?_
  rintro e w1 ⟨rfl, hb1⟩
  have H1 := H0.step hb1
  clear H0 hb1 AW
  obtain ⟨z, ⟨x1, x2, x3⟩, _⟩ := H1.1.all
  go_wp2_with fail
  clear z x1 x2 x3
  refine (FV.out _ _ H1.2).mono ?_
  rintro e w2 ⟨vf, rfl, hb2, O2⟩
  have L2 := own_lst O2
  have H2 := H1.step hb2
  clear H1 hb2 O2 FV
  obtain ⟨pf, cf, rfl⟩ := lst_len L2
  have nl : l.length ≤ 40 := by omega
  go_wp2_with (at_make; refine wpList_make_own _ rfl _ _ 27 rfl w2.heap.size 26 i0 (.agg #[.int .u64 0, .int .u64 0, .int .i64 0]) 3 Try.underlying27 hi0 hz0 hz1 _ _ _ l.length rfl rfl (by omega) (by rw [hz2]; omega) (by unfold maxLen; omega) (Nat.le_refl _) ?_; intro w3 hown3 hgrow3; have B3 : Below w2.heap.size w2 w3 := (Below.refl _ _).grown hgrow3 (Nat.le_refl _) (fun k h => by cases h))
  clear hgrow3
  have NV := hide (fun W (H : Below w2.heap.size w2 W) => H2.2.step H)
  go_loopw [9, 10] (fun s9 s10 wr => ∃ k : Nat, k ≤ l.length ∧ s10 = .int .i64 ((k : Int) - 1) ∧ Below w2.heap.size w2 wr ∧ Own wr w2.heap.size s9 ((l.drop k).reverse)) (fun _ i _ => (intOf i + 1).toNat)
  case atStart => exact ⟨l.length, Nat.le_refl _, by go_num, B3, by rw [List.drop_length]; exact hown3⟩
  case round =>
    obtain ⟨k, hk, rfl, HB, hown⟩ := hrel
    clear hown3 B3
    by_cases h0 : 0 < k
    · obtain ⟨x, hx⟩ := get_some (show k - 1 < l.length by omega)
      obtain ⟨bb, o, rfl, _, x1, x2, x3⟩ := lst_at (NV.out _ HB) hx
      have TN := turn_next hx
      rw [show k - 1 + 1 = k by omega] at TN
      have TH := hide TN
      have NL : (l.drop k).reverse.length + [x].length ≤ 1000000 := by simp; omega
      clear hx TN
      have B0 : 0 ≤ (k : Int) - 1 := by omega
      have B1 : 1 ≤ (k : Int) := by omega
      have WS : IntKind.i64.wrap ((k : Int) - 1) = (k : Int) - 1 := IntWalk.i64_in _ ⟨by omega, by omega⟩
      have BL : (k : Int) - 1 < (l.length : Int) := by omega
      have BN : ((k : Int) - 1).toNat = k - 1 := by omega
      generalize (l.drop k).reverse = pre at *
      have N1 := lst_one (box_new wr x 26)
      have bA := below_alloc wr (.cells #[.int .u64 (hi x.1 : Nat), .int .u64 (lo x.1 : Nat), .int .i64 x.2] 26)
      have BA := chain HB bA
      have OA := own_keep hown bA
      clear bA hown HB
      go_wp2_with (at_builtin; refine wpList_append_lst rfl (.tmp 40) (.tmp 45) rfl w2.heap.size _ pre rfl OA _ [x] rfl N1 NL BA.size ?_)
      intro v4 w4 O4 hb4 _
      have B4 := BA.trans hb4
      rw [← TH.out] at O4
      clear hb4 N1 BA OA
      go_wp2
      go_roundw
      case rel => exact ⟨k - 1, by omega, by rw [show ((k - 1 : Nat) : Int) = (k : Int) - 1 by omega], B4, O4⟩
      case measure => simp [intOf]; omega
    · obtain rfl : k = 0 := by omega
      rw [List.drop_zero] at hown
      have LT := own_lst hown
      have H4 := H2.step HB
      have L4 := L2.step HB
      clear hown H2 L2 NV HB
      obtain ⟨z, ⟨x1, x2, x3⟩, _⟩ := H4.1.all
      go_wp2_with fail
      clear z x1 x2 x3
      refine (FR.out _ _ LT).mono ?_
      rintro e w5 ⟨vg, rfl, hb5, O5⟩
      have L5 := own_lst O5
      have H5 := H4.step hb5
      have M5 := L4.step hb5
      clear H4 L4 hb5 O5 FR LT
      have EE : (E != E) = false := by simp
      go_wp2_with fail
      refine (SF.out _ _ _ M5 L5).mono ?_
      rintro e w6 ⟨rfl, hb6⟩
      have H6 := H5.step hb6
      have M6 := M5.step hb6
      clear H5 M5 L5 hb6 EE
      rcases hFc with ⟨hE, hF⟩ | ⟨hE, hg⟩
      · have HB6 := H6.1.1
        have EE : (E != 0) = true := by simpa using hE
        have FN : F.length = 0 := by rw [hF]; rfl
        clear hF hE H6 M6 SF
        go_wp2
        go_ret
        exact ⟨rfl, HB6⟩
      · subst hE
        have RV := hide (fun W v (H : Lst v F W) => reserve_any fp fb hFf (show F.length ≤ 100000 by omega) W H)
        obtain ⟨z, ⟨x1, x2, x3⟩, ⟨y1, y2, y3⟩⟩ := H6.1.all
        rcases reserve_cases (b := b) hg with ⟨n, hr, hn⟩ | ⟨R, hr, hc, ha, hR⟩
        · rw [hr] at RV
          have EE : (n != 0) = true := by have h0 : n ≠ 0 := (by omega); simpa using h0
          clear hr hn
          go_wp2_with fail
          clear z x1 x2 x3 y1 y2 y3
          refine (RV.out _ _ M6).mono ?_
          rintro e w7 ⟨v7, rfl, hb7, O7⟩
          obtain ⟨p7, c7, rfl⟩ := lst_len (own_lst O7)
          have HB7 := chain H6.1.1 hb7
          clear H6 M6 hb7 O7 RV SF
          go_wp2
          go_ret
          exact ⟨rfl, HB7⟩
        · rw [hr] at RV
          obtain ⟨gR, k1, k2, k3⟩ := back_spec hg hc ha hR
          have fR := good_fit fp.1 gR
          have lR := hR.len
          have G1 := hide (fun W v (H : Lst v R W) => give_any fp fb fR (show R.length ≤ 100000 by omega) W H)
          have R2 := hide (fun W v (H : Lst v R W) => reserve_any fp fb fR (show R.length ≤ 100000 by omega) W H)
          have G3 := hide (fun W v (H : Lst v F W) => give_any fp fb hFf (show F.length ≤ 100000 by omega) W H)
          rw [k1] at G1
          rw [k2] at R2
          rw [k3] at G3
          clear hr hc ha hR gR k1 k2 k3 hg fR
          go_wp2_with fail
          clear z x1 x2 x3 y1 y2 y3
          refine (RV.out _ _ M6).mono ?_
          rintro e w7 ⟨v7, rfl, hb7, O7⟩
          have L7 := own_lst O7
          have H7 := H6.step hb7
          have M7 := M6.step hb7
          clear H6 M6 hb7 O7 RV
          obtain ⟨z, ⟨x1, x2, x3⟩, ⟨y1, y2, y3⟩⟩ := H7.1.all
          go_wp2_with fail
          clear z x1 x2 x3 y1 y2 y3
          refine (G1.out _ _ L7).mono ?_
          rintro e w8 ⟨v8, rfl, hb8, O8⟩
          have N8 := own_lst O8
          have H8 := H7.step hb8
          have M8 := M7.step hb8
          have L8 := L7.step hb8
          clear H7 M7 L7 hb8 O8 G1
          obtain ⟨z, ⟨x1, x2, x3⟩, ⟨y1, y2, y3⟩⟩ := H8.1.all
          go_wp2_with fail
          clear z x1 x2 x3 y1 y2 y3
          refine (R2.out _ _ L8).mono ?_
          rintro e w9 ⟨v9, rfl, hb9, O9⟩
          have H9 := H8.step hb9
          have M9 := M8.step hb9
          have N9 := N8.step hb9
          clear H8 M8 L8 N8 hb9 O9 R2
          obtain ⟨z, ⟨x1, x2, x3⟩, ⟨y1, y2, y3⟩⟩ := H9.1.all
          go_wp2_with fail
          clear z x1 x2 x3 y1 y2 y3
          refine (G3.out _ _ M9).mono ?_
          rintro e wa ⟨va, rfl, hba, Oa⟩
          have Ha := H9.step hba
          have Ma := M9.step hba
          have Na := N9.step hba
          clear H9 M9 N9 hba Oa G3
          go_wp2_with fail
          refine (SF.out _ _ _ Na Ma).mono ?_
          rintro e wb ⟨rfl, hbb⟩
          have HBb := chain Ha.1.1 hbb
          clear Ha Ma Na hbb SF
          go_wp2
          go_ret
          exact ⟨rfl, HBb⟩
end Go.Proofs.Ytpieddddckbfdaa
