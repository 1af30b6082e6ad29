/-
  The contract of the document's own Get4. Condition: the text has at most 65536 bytes.
-/
import Derived.Test.YtmapcllmiomelaaDoorTextG2
namespace Go.Proofs.YtmapcllmiomelaaDoor
open Go.RowKit Go.Joins

theorem row_of_own {W : World} {base g cap : Nat} {ps : List ByteArray} (h : W.ownsRow base 9 1 (.slice (some ⟨g, 0, none⟩) ps.length cap) ps.length (ps.map Value.string)) : Row g ps W := by
  intro j x hj
  obtain ⟨p, c, hv, hl, hc⟩ := own_form h
  have hlt : j < ps.length := (List.getElem?_eq_some_iff.1 hj).1
  obtain ⟨ad, hp, _, hcell⟩ := hc (by omega)
  have h2 := hcell j (.string x) (by rw [List.getElem?_map, hj]; rfl)
  subst hp
  cases hv
  have e : (⟨g, 0, none⟩ : Go.Addr).add j = ⟨g, j, none⟩ := by rw [Addr.add_lit, Nat.zero_add]
  rw [e] at h2
  exact h2
set_option maxRecDepth 100000 in
set_option maxHeartbeats 1000000 in
theorem rget4_any (s : ByteArray) (hs : s.size ≤ 65536) (w : World) :
    Calls Tryd.prog 9 #[.string s] w (Gives (.tuple #[.int .u32 (g4V s : Nat), .bool (g4O s)]) w) := by
  have C := hide (rcut_any s hs 46 w)
  by_cases hl : (splitS 46 s).length = 4
  · have D := hide (show get4 s = fold4 0 (splitS 46 s) by rw [get4_S, if_pos hl])
    generalize hd : splitS 46 s = ps at *
    have HL := hide hl
    have LL : ((ps.length : Int) != 4) = false := by rw [hl]; rfl
    have L2 : (ps.length : Int) = 4 := by rw [hl]; rfl
    clear hd hl
    go_enter Tryd.func9, Tryd.ntmps9
    go_wp2_with fail
    refine C.out.mono ?_
    rintro e w1 ⟨g, cap, rfl, hb1, own1⟩
    have hr1 := row_of_own own1
    have hgb := base_le own1
    clear own1
    go_wp2_with fail
    have st : ∃ (k acc : Nat) (r : List ByteArray), k ≤ 4 ∧ Value.int .i64 0 = .int .i64 (k : Nat) ∧ Value.int .u32 0 = .int .u32 (acc : Nat) ∧ Hid (acc < 256 ^ k) ∧ Hid (ps.drop k = r) ∧ Hid (fold4 acc r = get4 s) ∧ Below w.heap.size w w1 ∧ Row g ps w1 :=
      ⟨0, 0, ps, by omega, rfl, rfl, hide (by omega), hide rfl, hide D.out.symm, hb1, hr1⟩
    go_loopw [5, 6] (fun sum i wr => ∃ (k acc : Nat) (r : List ByteArray), k ≤ 4 ∧ i = .int .i64 (k : Nat) ∧ sum = .int .u32 (acc : Nat) ∧ Hid (acc < 256 ^ k) ∧ Hid (ps.drop k = r) ∧ Hid (fold4 acc r = get4 s) ∧ Below w.heap.size w wr ∧ Row g ps wr) (fun _ i _ => 4 - (intOf i).toNat)
    case atStart => exact st
    case round =>
      clear st hb1 hr1
      obtain ⟨k, acc, r, hk, rfl, rfl, HA, HR, HF, hb, hr⟩ := hrel
      by_cases hlt : k < 4
      · obtain ⟨x, hx⟩ : ∃ x, ps[k]? = some x := ⟨ps[k]'(by have := HL.out; omega), List.getElem?_eq_getElem _⟩
        have hc := hr k x hx
        have hbx : w.heap.size < wr.heap.size ∨ True := Or.inr trivial
        have hrx : r = x :: ps.drop (k + 1) := by rw [← HR.out]; exact List.drop_eq_getElem?_toList_append ▸ by rw [hx]; rfl
        have HQ := hide hrx
        clear hrx hx hbx
        cases hn : gnum x.data.toList with
        | none =>
          have K := hide (gnum_none hn)
          have R := hide (get4_none (show get4 s = none by rw [← HF.out, HQ.out]; unfold fold4; rw [hn]))
          clear hn
          go_wp2_with fail
          refine (rgetnum_any x _).mono ?_
          rintro e w2 ⟨rfl, hb2⟩
          rw [K.out.1, K.out.2]
          go_wp2
          go_ret2
          exact ⟨congrArg Ending.returned (tup2 (by rw [R.out.1]; rfl) (bool_eq R.out.2.symm)), chain hb hb2⟩
        | some n =>
          have K := hide (gnum_some hn)
          by_cases hg : n ≤ 255
          · have R := hide (show fold4 (acc * 256 + n) (ps.drop (k + 1)) = get4 s by rw [← HF.out, HQ.out]; conv => rhs; unfold fold4; rw [hn]; simp only; rw [if_pos hg])
            have hA : acc < 16777216 := Nat.lt_of_lt_of_le HA.out (Nat.le_trans (Nat.pow_le_pow_right (by omega) (show k ≤ 3 by omega)) (by omega))
            have N := hide (show (acc : Int) * 256 + (n : Int) = ((acc * 256 + n : Nat) : Int) by omega)
            have A2 := hide (show acc * 256 + n < 256 ^ (k + 1) by have := HA.out; rw [Nat.pow_succ]; generalize 256 ^ k = p at *; omega)
            have hg' : (n : Int) ≤ 255 := by omega
            clear hn
            go_wp2_with fail
            refine (rgetnum_any x _).mono ?_
            rintro e w2 ⟨rfl, hb2⟩
            rw [K.out.1, K.out.2]
            go_wp2
            go_roundw
            case rel => exact ⟨k + 1, acc * 256 + n, _, by omega, by go_num, by rw [N.out], A2, hide rfl, R, chain hb hb2, hr.step hb2⟩
            case measure => simp [intOf]; omega
          · have R := hide (get4_none (show get4 s = none by rw [← HF.out, HQ.out]; unfold fold4; rw [hn]; simp only; rw [if_neg hg]))
            have hg' : (255 : Int) < (n : Int) := by omega
            clear hn
            go_wp2_with fail
            refine (rgetnum_any x _).mono ?_
            rintro e w2 ⟨rfl, hb2⟩
            rw [K.out.1, K.out.2]
            go_wp2
            go_ret2
            exact ⟨congrArg Ending.returned (tup2 (by rw [R.out.1]; rfl) (bool_eq R.out.2.symm)), chain hb hb2⟩
      · have e : k = 4 := by omega
        subst e
        have R := hide (get4_some (show get4 s = some acc by rw [← HF.out, ← HR.out, List.drop_of_length_le (by have := HL.out; omega)]; rfl))
        go_wp2
        go_ret2
        exact ⟨congrArg Ending.returned (tup2 (by rw [R.out.1]; rfl) (bool_eq R.out.2.symm)), hb⟩
  · have R := hide (get4_none (show get4 s = none by rw [get4_S, if_neg hl]))
    generalize hd : splitS 46 s = ps at *
    have LL : ((ps.length : Int) != 4) = true := by simp; omega
    clear hd hl
    go_enter Tryd.func9, Tryd.ntmps9
    go_wp2_with fail
    refine C.out.mono ?_
    rintro e w1 ⟨g, cap, rfl, hb1, own1⟩
    have hr1 := row_of_own own1
    have hgb := base_le own1
    clear own1
    go_wp2
    go_ret2
    exact ⟨congrArg Ending.returned (tup2 (by rw [R.out.1]; rfl) (bool_eq R.out.2.symm)), hb1⟩
end Go.Proofs.YtmapcllmiomelaaDoor
