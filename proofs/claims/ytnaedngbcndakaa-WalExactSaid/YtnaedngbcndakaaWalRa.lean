/-
  The contracts of the document's own Frame, one and Scan (tenancyref07). Conditions: a string is no longer than an int; the bytes are fewer than 2^40, a place is one of theirs.
-/
import Derived.Test.YtnaedngbcndakaaWalF
import Derived.Test.YtnaedngbcndakaaFilN
namespace Go.Proofs.Ytnaedngbcndakaa
open Go.RowKit Go.Joins

set_option maxRecDepth 100000 in
theorem rframe_bad (p : List UInt8) (h : ¬ recOk p) (hp : p.length ≤ maxLen) (w : World) : Calls Try.prog 9 #[St p] w (Tells w (.tuple #[St [], .int .i64 1])) := by
  unfold maxLen at hp
  by_cases h1 : p.length < 1
  · have h2 : (p.length : Int) < 1 := by omega
    clear h
    go_enter Try.func9, Try.ntmps9
    go_wp2
    go_ret2
    exact ⟨rfl, Fr.refl _ _⟩
  · have h2 : ¬ (p.length : Int) < 1 := by omega
    have h3 : 65536 < (p.length : Int) := by
      have : ¬ p.length ≤ 65536 := fun e => h ⟨by omega, e⟩
      omega
    clear h h1
    go_enter Try.func9, Try.ntmps9
    go_wp2
    go_ret2
    exact ⟨rfl, Fr.refl _ _⟩
set_option maxRecDepth 100000 in
theorem rframe_ok (p : List UInt8) (h : recOk p) (w : World) : Calls Try.prog 9 #[St p] w (Tells w (.tuple #[St (frameL p), .int .i64 0])) := by
  have hp1 := h.1
  have hp2 := h.2
  have P1 := hide (fun W => put32_ref p.length (by omega) W)
  have HCRC := hide (fun W => rcrc_l p (by unfold maxLen; omega) W)
  have P2 := hide (fun W => put32_ref (crcL p) (crcL_lt p) W)
  have c1 := cat2 (beL 4 p.length) (beL 4 (crcL p))
  have c2 := cat2 (beL 4 p.length ++ beL 4 (crcL p)) p
  have e2 : (beL 4 p.length ++ beL 4 (crcL p)) ++ p = frameL p := by unfold frameL; rw [List.append_assoc]
  rw [e2] at c2
  have c3 := crcL_lt p
  have z1 := beL_length 4 p.length
  have z2 := beL_length 4 (crcL p)
  have h1 : ¬ (p.length : Int) < 1 := by omega
  have h3 : ¬ 65536 < (p.length : Int) := by omega
  generalize beL 4 p.length = b1 at *
  generalize beL 4 (crcL p) = b2 at *
  generalize crcL p = cc at *
  clear h e2
  go_enter Try.func9, Try.ntmps9
  go_wp2_with fail
  refine (P1.out _).mono ?_
  rintro e w2 ⟨rfl, B2⟩
  go_wp2_with fail
  refine (HCRC.out _).mono ?_
  rintro e w3 ⟨rfl, rfl⟩
  go_wp2_with fail
  refine (P2.out _).mono ?_
  rintro e w4 ⟨rfl, B4⟩
  go_wp2
  go_ret2
  exact ⟨rfl, (Fr.ofBelow B2).andNo (Fr.ofBelow B4)⟩

/-- what one answers: whether a right frame stands there, and its record -/
def One (l : List UInt8) (a : Nat) (w : World) (e : Ending) (w' : World) : Prop := ∃ t, e = .returned (.tuple #[St t, .bool (takeL (l.drop a)).isSome]) ∧ w = w' ∧ ∀ p, takeL (l.drop a) = some p → t = p
theorem one_no {l t : List UInt8} {a : Nat} {w : World} (h : takeL (l.drop a) = none) : One l a w (.returned (.tuple #[St t, .bool false])) w := ⟨t, by rw [h]; rfl, rfl, fun p hp => by rw [h] at hp; cases hp⟩
set_option maxRecDepth 100000 in
set_option maxHeartbeats 1000000 in
theorem one_any (l : List UInt8) (hl : l.length ≤ 1099511627776) (a : Nat) (ha : a ≤ l.length) (w : World) :
    Calls Try.prog 43 #[St l, .int .i64 (a : Int)] w (One l a w) := by
  have hml : l.length ≤ maxLen := by unfold maxLen; omega
  have dl : (l.drop a).length = l.length - a := List.length_drop
  have G1 := hide (fun W => rget32_l l hml a (by omega) W)
  have G2 := hide (fun W => rget32_l l hml (a + 4) (by omega) W)
  have ez : ((a + 4 : Nat) : Int) = (a : Int) + 4 := by omega
  rw [ez] at G2
  have e8 : ((a + 8 : Nat) : Int) = (a : Int) + 8 := by omega
  have no : ∀ t W, ¬ headOk (l.drop a) → One l a W (.returned (.tuple #[St t, .bool false])) W := fun t W h => one_no (takeL_no h)
  by_cases h4 : a + 4 ≤ l.length
  · have nl := numL_len l a h4
    have nlt := numL_lt l a
    have nlt2 := numL_lt l (a + 4)
    rw [decide_eq_true h4] at G1
    by_cases h8 : a + 4 + 4 ≤ l.length
    · rw [decide_eq_true h8] at G2
      by_cases hf : 1 ≤ numL l a ∧ numL l a ≤ 65536
      · have f1 : ¬ ((numL l a : Nat) : Int) < 1 := by omega
        have f2 : ¬ 65536 < ((numL l a : Nat) : Int) := by omega
        have CU := hide (fun W => rcut_l l hml (a + 8) (numL l a) (by omega) (by omega) W)
        rw [e8] at CU
        by_cases hc : a + 8 + numL l a ≤ l.length
        · rw [if_pos hc, decide_eq_true hc, nl, recL_at, ← nl] at CU
          have hrl : (recL (l.drop a)).length = numL l a := by unfold recL; rw [List.length_take, List.length_drop, ← nl]; omega
          have RC := hide (fun W => rcrc_l (recL (l.drop a)) (by rw [hrl]; unfold maxLen; omega) W)
          have ns := numL_sum l a (by omega)
          have cl := crcL_lt (recL (l.drop a))
          by_cases hs : crcL (recL (l.drop a)) = sumL (l.drop a)
          · have V := hide (show ∀ W, One l a W (.returned (.tuple #[St (recL (l.drop a)), .bool true])) W from fun W => by
              have h : takeL (l.drop a) = some (recL (l.drop a)) := takeL_yes ⟨by omega, by omega, by omega, by omega, hs⟩
              exact ⟨_, by rw [h]; rfl, rfl, fun p hp => by rw [h] at hp; exact Option.some.inj hp⟩)
            rw [← ns] at hs
            rw [hs] at RC
            generalize numL l (a + 4) = n2 at *
            generalize numL l a = n1 at *
            generalize recL (l.drop a) = rc at *
            clear no hs ns nl h4 dl cl h8 hf
            go_enter Try.func43, Try.ntmps43
            go_wp2_with fail
            refine (G1.out w).mono ?_
            rintro e w' ⟨rfl, rfl⟩
            go_wp2_with fail
            refine (G2.out w).mono ?_
            rintro e w' ⟨rfl, rfl⟩
            go_wp2_with fail
            refine (CU.out w).mono ?_
            rintro e w' ⟨rfl, rfl⟩
            go_wp2_with fail
            refine (RC.out w).mono ?_
            rintro e w' ⟨rfl, rfl⟩
            go_wp2
            go_ret2
            exact V.out w
          · have V := hide (fun t W => no t W (fun h => hs h.2.2.2.2))
            rw [← ns] at hs
            have hs2 : (((crcL (recL (l.drop a)) : Nat) : Int) == ((numL l (a + 4) : Nat) : Int)) = false := by
              have : ¬ ((crcL (recL (l.drop a)) : Nat) : Int) = ((numL l (a + 4) : Nat) : Int) := by omega
              simpa using this
            have V2 := hide (show ∀ t W, One l a W (.returned (.tuple #[St t, .bool (((crcL (recL (l.drop a)) : Nat) : Int) == ((numL l (a + 4) : Nat) : Int))])) W from fun t W => by rw [hs2]; exact V.out t W)
            generalize numL l (a + 4) = n2 at *
            generalize numL l a = n1 at *
            generalize crcL (recL (l.drop a)) = cc at *
            generalize recL (l.drop a) = rc at *
            clear no hs ns nl h4 dl h8 hf hs2
            go_enter Try.func43, Try.ntmps43
            go_wp2_with fail
            refine (G1.out w).mono ?_
            rintro e w' ⟨rfl, rfl⟩
            go_wp2_with fail
            refine (G2.out w).mono ?_
            rintro e w' ⟨rfl, rfl⟩
            go_wp2_with fail
            refine (CU.out w).mono ?_
            rintro e w' ⟨rfl, rfl⟩
            go_wp2_with fail
            refine (RC.out w).mono ?_
            rintro e w' ⟨rfl, rfl⟩
            go_wp2
            go_ret2
            exact V2.out rc w
        · rw [if_neg hc, decide_eq_false hc] at CU
          have V := hide (fun t W => no t W (fun h => hc (by have := h.2.2.2.1; omega)))
          generalize numL l (a + 4) = n2 at *
          generalize numL l a = n1 at *
          clear no nl h4 dl hc h8 hf
          go_enter Try.func43, Try.ntmps43
          go_wp2_with fail
          refine (G1.out w).mono ?_
          rintro e w' ⟨rfl, rfl⟩
          go_wp2_with fail
          refine (G2.out w).mono ?_
          rintro e w' ⟨rfl, rfl⟩
          go_wp2_with fail
          refine (CU.out w).mono ?_
          rintro e w' ⟨rfl, rfl⟩
          go_wp2
          go_ret2
          exact V.out [] w
      · have V := hide (fun W => no [] W (fun h => hf ⟨by have := h.2.1; omega, by have := h.2.2.1; omega⟩))
        generalize numL l (a + 4) = n2 at *
        generalize numL l a = n1 at *
        clear no nl h4 dl h8
        by_cases f1 : ((n1 : Nat) : Int) < 1
        · clear hf
          go_enter Try.func43, Try.ntmps43
          go_wp2_with fail
          refine (G1.out w).mono ?_
          rintro e w' ⟨rfl, rfl⟩
          go_wp2_with fail
          refine (G2.out w).mono ?_
          rintro e w' ⟨rfl, rfl⟩
          go_wp2
          go_ret2
          exact V.out w
        · have f2 : 65536 < ((n1 : Nat) : Int) := by omega
          clear hf
          go_enter Try.func43, Try.ntmps43
          go_wp2_with fail
          refine (G1.out w).mono ?_
          rintro e w' ⟨rfl, rfl⟩
          go_wp2_with fail
          refine (G2.out w).mono ?_
          rintro e w' ⟨rfl, rfl⟩
          go_wp2
          go_ret2
          exact V.out w
    · rw [decide_eq_false h8] at G2
      have V := hide (fun W => no [] W (fun h => by have := h.1; omega))
      generalize numL l (a + 4) = n2 at *
      generalize numL l a = n1 at *
      clear no nl h4 dl h8
      go_enter Try.func43, Try.ntmps43
      go_wp2_with fail
      refine (G1.out w).mono ?_
      rintro e w' ⟨rfl, rfl⟩
      go_wp2_with fail
      refine (G2.out w).mono ?_
      rintro e w' ⟨rfl, rfl⟩
      go_wp2
      go_ret2
      exact V.out w
  · rw [decide_eq_false h4] at G1
    have V := hide (fun W => no [] W (fun h => by have := h.1; omega))
    generalize numL l (a + 4) = n2 at *
    generalize numL l a = n1 at *
    generalize decide (a + 4 + 4 ≤ l.length) = o2 at *
    clear no dl h4
    go_enter Try.func43, Try.ntmps43
    go_wp2_with fail
    refine (G1.out w).mono ?_
    rintro e w' ⟨rfl, rfl⟩
    go_wp2_with fail
    refine (G2.out w).mono ?_
    rintro e w' ⟨rfl, rfl⟩
    go_wp2
    go_ret2
    exact V.out w
theorem string_cell (t : List UInt8) : ∀ u ∈ [St t], u.oneCell' = true := by
  intro u hu
  rw [List.mem_singleton.1 hu]
  rfl
theorem string_at (W : World) (t : List UInt8) (ty : TypeId) : ∀ j u, [St t][j]? = some u → (W.alloc (.cells #[St t] ty)).cell? ((⟨W.heap.size, 0, none⟩ : Go.Addr).add j) = some u := by
  intro j u hj
  match j, hj with
  | 0, hj => simp at hj; subst hj; simp [Addr.add, go_sem]
  | j + 1, hj => simp at hj
set_option maxRecDepth 100000 in
set_option maxHeartbeats 1000000 in
theorem rscan_any (l : List UInt8) (hl : l.length ≤ 1099511627776) (w : World) : Calls Try.prog 11 #[St l] w (GivesScan l w) := by
  obtain ⟨i0, hi, hz0, hz1, hz2⟩ := info_parts infoSt
  have O0 := World.ownsRow_lit (base := w.heap.size) (e := 9) (size := 1) w #[] 0 (Nat.le_refl _) (by omega) rfl
  have ON := hide (fun a h W => one_any l hl a h W)
  go_enter Try.func11, Try.ntmps11
  go_wp2_with fail
  go_loopw [4, 5, 6, 7] (fun v i _ _ wr => ∃ (a b : List (List UInt8)) (g cap : Nat), Hid (scanL l = a ++ b) ∧ v = .slice (some ⟨g, 0, none⟩) a.length cap ∧ i = .int .i64 (sizeL a : Nat) ∧
      wr.ownsRow w.heap.size 9 1 (.slice (some ⟨g, 0, none⟩) a.length cap) a.length (a.map St) ∧ Below w.heap.size w wr) (fun _ i _ _ _ => l.length - (intOf i).toNat)
  case atStart => exact ⟨[], scanL l, w.heap.size, 0, hide rfl, rfl, rfl, O0, below_alloc _ _⟩
  case round =>
    obtain ⟨a, b, g, cap, HS, rfl, rfl, hown, hb⟩ := hrel
    clear O0
    have hsz := size_le_len HS.out
    have C := hide (ON.out (sizeL a) (by omega) wr)
    unfold One at C
    rw [scan_at HS.out] at C
    have hal : a.length ≤ sizeL a := by
      have h1 : ∀ x : List (List UInt8), x.length ≤ sizeL x := fun x => by
        induction x with
        | nil => exact Nat.zero_le _
        | cons p x ih => rw [size_cons, List.length_cons]; omega
      exact h1 a
    cases b with
    | nil =>
      have E := hide (show scanL l = a by rw [HS.out, List.append_nil])
      go_wp2_with fail
      refine C.out.mono ?_
      rintro e w2 ⟨t, rfl, rfl, _⟩
      go_wp2
      go_ret2
      exact ⟨.slice (some ⟨g, 0, none⟩) a.length cap, by rw [E.out]; rfl, hb, by rw [E.out]; exact hown⟩
    | cons p b =>
      have HS2 := hide (show scanL l = (a ++ [p]) ++ b by rw [HS.out]; simp)
      have hs1 : sizeL (a ++ [p]) = sizeL a + 8 + p.length := by rw [size_snoc]; omega
      have hs2 := size_le_len HS2.out
      rw [hs1] at hs2
      have HS1 := hide hs1
      clear hs1
      go_wp2_with fail
      refine C.out.mono ?_
      rintro e w2 ⟨t, rfl, rfl, ht⟩
      obtain rfl : t = p := ht p rfl
      have HB := hb.alloc hb.size (.cells #[St t] 9)
      have hA := hown.alloc (.cells #[St t] 9)
      have hbz := base_le hown
      go_wp2_with (at_builtin; refine wpList_append_lies _ rfl (.tmp 19) (.tmp 21) 26 rfl w.heap.size 9 i0 (.string ⟨#[]⟩) 1 16 Try.underlying26 hi hz0 hz1 hz2 rfl (by decide) _ _ _ rfl hA ⟨wr.heap.size, 0, none⟩ 1 1 [St t] rfl rfl (string_at wr t 9) (string_cell t) (by omega) (by unfold maxLen; omega) (by omega) HB.size _ rfl ?_; intro g2 cap2 w2 hown2 hgrow2 _ _)
      have HB2 := HB.grown hgrow2 (by simp; have := hb.size; omega) (fun j hj => by cases hj; exact hbz)
      go_wp2
      go_roundw
      case rel => exact ⟨a ++ [t], b, g2, cap2, HS2, by simp, by rw [HS1.out]; go_num, by simpa using hown2, HB2⟩
      case measure => simp [intOf]; omega
theorem rscan_tells (q : List UInt8) (hq : q.length ≤ 1099511627776) (w : World) : Calls Try.prog 11 #[St q] w (fun e w' => ∃ v, e = .returned (.tuple #[v, .int .i64 (sizeL (scanL q) : Nat)]) ∧ Fr No w w' ∧ RowS w' v (scanL q)) :=
  (rscan_any q hq w).mono (fun _ _ ⟨v, h1, h2, h3⟩ => ⟨v, h1, Fr.ofBelow h2, RowS.own h3⟩)
end Go.Proofs.Ytnaedngbcndakaa
