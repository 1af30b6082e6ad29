/-
  The document's own place, Find and Without (tenancyref13). Condition: a row of options takes at most 2^47 bytes.
-/
import Derived.Test.YtmoklodaeicpgaaOpW
namespace Go.Proofs.Ytmoklodaeicpgaa
open Go.RowKit Go.Joins Go.Maps

theorem find_no {l : List Opt} {c : UInt8} (h : ∀ j, j < l.length → decide ((l.getD j ((0, ⟨#[]⟩) : Opt)).1 = c) = false) : findI l c = -1 := idx_no (P := fun x => decide (x.1 = c)) h
theorem find_here {l : List Opt} {c : UInt8} {k : Nat} {x : Opt} (hx : l[k]? = some x) (h : ∀ j, j < k → decide ((l.getD j ((0, ⟨#[]⟩) : Opt)).1 = c) = false) (hp : x.1 = c) : findI l c = (k : Int) := idx_at (P := fun x => decide (x.1 = c)) hx h (decide_eq_true hp)
set_option maxRecDepth 100000 in
set_option maxHeartbeats 1000000 in
theorem place_any (c : UInt8) {v : Value} {l : List Opt} (hl : l.length * 24 ≤ 140737488355328) (w : World) (hv : LstO v l w) :
    Calls Try.prog 51 #[v, KV c] w (Gives (.int .i64 (findI l c)) w) := by
  have HV := hide (fun W (H : Below w.heap.size w W) => hv.step H)
  obtain ⟨q, cp, rfl⟩ := lstO_len hv
  clear hv
  go_enter Try.func51, Try.ntmps51
  go_wp2
  go_loopw [5] (fun i wr => ∃ k : Nat, k ≤ l.length ∧ i = .int .i64 (k : Nat) ∧ Hid (∀ j, j < k → decide ((l.getD j ((0, ⟨#[]⟩) : Opt)).1 = c) = false) ∧ Below w.heap.size w wr) (fun i _ => l.length - (intOf i).toNat)
  case atStart => exact ⟨0, Nat.zero_le _, rfl, hide (fun j h => absurd h (Nat.not_lt_zero _)), Below.refl _ _⟩
  case round =>
    obtain ⟨k, hk, rfl, HG, HB⟩ := hrel
    by_cases hlt : k < l.length
    · obtain ⟨x, hx⟩ := getO_some hlt
      obtain ⟨b, o, rfl, _, x1, x2⟩ := lstO_at (HV.out _ HB) hx
      have GD := hide (getD_some (d := ((0, ⟨#[]⟩) : Opt)) hx)
      by_cases e : x.1 = c
      · have E := hide (find_here hx HG.out e)
        have P1 : ((x.1.toNat : Int) == (c.toNat : Int)) = true := by rw [e]; simp
        clear e hx
        go_wp2
        go_ret
        exact ⟨congrArg Ending.returned (i64_eq E.out.symm), HB⟩
      · have P1 : ¬ (x.1.toNat : Int) = (c.toNat : Int) := byte_ne e
        have G2 := hide (show ∀ j, j < k + 1 → decide ((l.getD j ((0, ⟨#[]⟩) : Opt)).1 = c) = false by
          intro j hj
          by_cases ej : j = k
          · rw [ej, GD.out]; exact decide_eq_false e
          · exact HG.out j (by omega))
        clear e hx
        go_wp2
        go_roundw
        case rel => exact ⟨k + 1, hlt, by go_num, G2, HB⟩
        case measure => simp [intOf]; omega
    · have E := hide (find_no (l := l) (c := c) (fun j hj => HG.out j (by omega)))
      go_wp2
      go_ret
      exact ⟨congrArg Ending.returned (i64_eq E.out.symm), HB⟩
set_option maxRecDepth 100000 in
set_option maxHeartbeats 1000000 in
theorem rfind_any (c : UInt8) {v : Value} {l : List Opt} (hl : l.length * 24 ≤ 140737488355328) (w : World) (hv : LstO v l w) :
    Calls Try.prog 30 #[v, KV c] w (Gives (.tuple #[.string (findD l c), .bool (hasC c l)]) w) := by
  have PL := hide (place_any c hl w hv)
  have HV := hide (fun W (H : Below w.heap.size w W) => hv.step H)
  have FI : ∃ i, Hid (findI l c = i) := ⟨_, hide rfl⟩
  obtain ⟨i, FI⟩ := FI
  rw [FI.out] at PL
  obtain ⟨q, d, rfl⟩ := lstO_len hv
  rcases find_at (l := l) (c := c) with ⟨h1, h2, h3⟩ | ⟨k, x, hx, h1, h2, h3⟩
  · have E := hide (And.intro h2 h3)
    obtain rfl : i = -1 := by rw [← FI.out]; exact h1
    clear h1 h2 h3 hv
    go_enter Try.func30, Try.ntmps30
    go_wp2_with fail
    refine PL.out.mono ?_
    rintro e w1 ⟨rfl, hb1⟩
    have HB := hide hb1
    go_wp2
    go_ret2
    exact ⟨congrArg Ending.returned (tup2 (by rw [E.out.1]; rfl) (bool_eq E.out.2.symm)), HB.out⟩
  · have E := hide (And.intro h2 h3)
    have hk : k < l.length := (List.getElem?_eq_some_iff.1 hx).1
    obtain rfl : i = (k : Int) := by rw [← FI.out]; exact h1
    have KN : ¬ (k : Int) < 0 := by omega
    clear h1 h2 h3
    obtain ⟨b, o, rfl, _, _⟩ := lstO_at hv hx
    have RX := hide (fun W (H : Below w.heap.size w W) => lstO_at (HV.out W H) hx)
    clear hv
    go_enter Try.func30, Try.ntmps30
    go_wp2_with fail
    refine PL.out.mono ?_
    rintro e w1 ⟨rfl, hb1⟩
    have HB := hide hb1
    obtain ⟨_, _, e, _, u0, u1⟩ := RX.out w1 HB.out
    cases e
    go_wp2
    go_ret2
    exact ⟨congrArg Ending.returned (tup2 (by rw [E.out.1]; rfl) (bool_eq E.out.2.symm)), HB.out⟩
set_option maxRecDepth 100000 in
set_option maxHeartbeats 1000000 in
theorem rwithout_any (c : UInt8) {v : Value} {l : List Opt} (hl : l.length * 24 ≤ 140737488355328) (w : World) (hv : LstO v l w) :
    Calls Try.prog 35 #[v, KV c] w (MakesO w.heap.size (kept c l) w) := by
  have HV := hide (fun W (H : Below w.heap.size w W) => hv.step H)
  obtain ⟨q, cp, rfl⟩ := lstO_len hv
  have O0 : OwnO (w.alloc (.cells #[] 47)) w.heap.size (.slice (some ⟨w.heap.size, 0, none⟩) 0 0) (kept c (l.take 0)) := own_empty w
  have B0 := below_alloc w (.cells #[] 47)
  clear hv
  go_enter Try.func35, Try.ntmps35
  go_wp2
  generalize w.alloc (.cells #[] 47) = W0 at *
  go_loopw [5, 6] (fun s5 s6 wr => ∃ k : Nat, k ≤ l.length ∧ s6 = .int .i64 (k : Nat) ∧ Below w.heap.size w wr ∧ OwnO wr w.heap.size s5 (kept c (l.take k))) (fun _ i _ => l.length - (intOf i).toNat)
  case atStart => exact ⟨0, Nat.zero_le _, rfl, B0, O0⟩
  case round =>
    obtain ⟨k, hk, rfl, HB, HO⟩ := hrel
    clear O0 B0
    have HB2 := hide HB
    have HO2 := hide HO
    by_cases hlt : k < l.length
    · obtain ⟨x, hx⟩ := getO_some hlt
      obtain ⟨b, o, rfl, _, x1, x2⟩ := lstO_at (HV.out _ HB) hx
      have KT := hide (kept_take (c := c) hx)
      have KLn : (kept c (l.take k)).length ≤ k := Nat.le_trans (List.length_filter_le _ _) (by rw [List.length_take]; omega)
      have W0 : w.heap.size ≤ wr.heap.size := HB.size
      by_cases e : x.1 = c
      · have P1 : ((x.1.toNat : Int) == (c.toNat : Int)) = true := by rw [e]; simp
        have E := hide (show kept c (l.take (k + 1)) = kept c (l.take k) by rw [KT.out, if_pos e])
        clear e hx HB HO
        go_wp2
        go_roundw
        case rel => exact ⟨k + 1, hlt, by go_num, HB2.out, by rw [E.out]; exact HO2.out⟩
        case measure => simp [intOf]; omega
      · have P1 : ¬ (x.1.toNat : Int) = (c.toNat : Int) := byte_ne e
        have E := hide (show kept c (l.take (k + 1)) = kept c (l.take k) ++ [x] by rw [KT.out, if_neg e])
        clear e hx HB HO
        generalize kept c (l.take k) = pre at *
        go_wp2_with (at_builtin; refine wpList_append_oneO rfl (.tmp 21) (.tmp 26) rfl w.heap.size _ pre rfl (own_keep HO2.out (below_alloc _ _)) wr.heap.size 1 x rfl own_two (by omega) (Nat.le_trans W0 (below_alloc _ _).size) ?_; intro g3 c3 w3 q1 q2 q3 q4)
        go_roundw
        case rel => exact ⟨k + 1, hlt, by go_num, HB2.out.trans (((below_alloc _ _).mono W0).trans q2), by rw [E.out]; exact q1⟩
        case measure => simp [intOf]; omega
    · have e : l.take k = l := List.take_of_length_le (by omega)
      rw [e] at HO2
      clear HO e
      go_wp2
      go_ret
      exact ⟨_, rfl, HB2.out, HO2.out⟩
end Go.Proofs.Ytmoklodaeicpgaa
