/-
  Contracts of Less, Drop and Rank. Conditions: the words are words of 64 bits; a slice has at most 600 ranges.
-/
import Derived.Test.YtfmhpnendcikoaaGreatSpanA
namespace Go.Proofs.YtfmhpnendcikoaaGreat
open Go.RowKit Go.Joins

theorem lst_old {v : Value} {l : List Rg} {w : World} (h : Lst v l w) : ∃ p c, v = .slice p l.length c ∧ Old w.heap.size p l w := by
  rcases h with ⟨p, c, rfl, rfl, _⟩ | ⟨b, o, c, rfl, hr, _⟩
  · exact ⟨p, c, rfl, fun j x hj => by simp at hj⟩
  · exact ⟨_, c, rfl, fun j x hj => ⟨b, o, rfl, hr.1, hr.2 j x hj⟩⟩
theorem rest_len : ∀ (hs : List Rg) (r : Rg), (restL r hs).length ≤ hs.length + 1
  | [], r => by simp [restL]
  | h :: t, r => by
    rw [rest_cons, List.length_append, List.length_cons]
    have := rest_len t (h.2 + 1, r.2)
    split <;> split <;> simp <;> omega
theorem less_take {l o : List Rg} {k : Nat} {x : Rg} (h : l[k]? = some x) : lessL (l.take (k + 1)) o = lessL (l.take k) o ++ restL x (holesL o x) := by
  unfold lessL
  rw [List.take_add_one, h, List.flatMap_append]
  simp
theorem holes_len (o : List Rg) (r : Rg) : (holesL o r).length = toS o r.2 - fromS o r.1 := by
  unfold holesL
  have := to_le o r.2
  rw [List.length_drop, List.length_take]
  omega
theorem holes_at {o : List Rg} {r : Rg} {j : Nat} {x : Rg} (h : (holesL o r)[j]? = some x) : fromS o r.1 + j < toS o r.2 ∧ o[fromS o r.1 + j]? = some x := by
  unfold holesL at h
  rw [List.getElem?_drop, List.getElem?_take] at h
  split at h
  · exact ⟨by assumption, h⟩
  · cases h
theorem crude {l o : List Rg} : ∀ k, k ≤ l.length → (lessL (l.take k) o).length ≤ k * (o.length + 1)
  | 0, _ => by simp [lessL]
  | k + 1, h => by
    obtain ⟨x, hx⟩ := get_some (show k < l.length by omega)
    rw [less_take hx, List.length_append]
    have h1 := crude (l := l) (o := o) k (by omega)
    have h2 := rest_len (holesL o x) x
    have h3 := holes_len o x
    have h4 := to_le o x.2
    rw [Nat.succ_mul]
    omega
/-- what appendRest is given of the other set -/
theorem holes_old {base b o c : Nat} {l : List Rg} {r : Rg} {W : World} (hb : b < base) (hc : l.length ≤ c) (h : RowR b o l W) : Old base (if c = fromS l r.1 then some ⟨b, o, none⟩ else some ⟨b, o + fromS l r.1 * 4, none⟩) (holesL l r) W := by
  intro j x hj
  obtain ⟨h1, h2⟩ := holes_at hj
  have := to_le l r.2
  rw [if_neg (by omega)]
  refine ⟨b, o + fromS l r.1 * 4, rfl, hb, ?_⟩
  have := h.2 _ x h2
  rwa [show o + (fromS l r.1 + j) * 4 = o + fromS l r.1 * 4 + j * 4 by omega] at this

set_option maxRecDepth 100000 in
set_option maxHeartbeats 1000000 in
theorem less_some {b o c : Nat} {v : Value} {l m : List Rg} (hf : FitL l) (fm : FitL m) (hs : soundL l = true) (hsm : soundL m = true) (hl : l.length ≤ 600) (hm : m.length ≤ 600) (w : World) (hv : Lst v l w) (hu : RowR b o m w) (hc : m.length ≤ c) (hcb : c ≤ 9223372036854775807) (hne : m ≠ []) :
    Calls Tryz.prog 23 #[v, .slice (some ⟨b, o, none⟩) m.length c] w (PutGives (lessL l m) w) := by
  have hU : Lst (.slice (some ⟨b, o, none⟩) m.length c) m w := Or.inr ⟨b, o, c, rfl, hu, hc, hne, hcb⟩
  have S1 := hide (fun W H => via (sound_any (v := v) hf (by omega) W H) (v' := .bool true) (by rw [hs]))
  have S2 := hide (fun W H => via (sound_any (v := .slice (some ⟨b, o, none⟩) m.length c) fm (by omega) W H) (v' := .bool true) (by rw [hsm]))
  have sm := sound_snd.1 hsm
  obtain ⟨pv, cv, rfl, hold⟩ := lst_old hv
  have CR := hide (fun k (h : k ≤ l.length) => crude (l := l) (o := m) k h)
  have SL := sound_snd.1 hs
  go_enter Tryz.func23, Tryz.ntmps23
  go_wp2_with fail
  refine (S1.out _ hv).mono ?_
  rintro e w1 ⟨rfl, hb1⟩
  go_wp2_with fail
  refine (S2.out _ (hU.step hb1)).mono ?_
  rintro e w2 ⟨rfl, hb2⟩
  have HB0 := chain hb1 hb2
  clear hb1 hb2 S1 S2
  go_wp2
  go_loopw [6, 21] (fun s6 i wr => ∃ (k : Nat) (v' : Value), k ≤ l.length ∧ i = .int .i64 (k : Nat) ∧ v' = s6 ∧ Below w.heap.size w wr ∧ Own wr w.heap.size v' (lessL (l.take k) m)) (fun _ i _ => l.length - (intOf i).toNat)
  case atStart => exact ⟨0, _, Nat.zero_le _, rfl, rfl, HB0, World.ownsRow_nil _ _ _ _⟩
  case round =>
    obtain ⟨k, v', hk, rfl, rfl, HB, hown⟩ := hrel
    clear HB0
    by_cases hlt : k < l.length
    · obtain ⟨x, hx⟩ := get_some hlt
      have fx := fit_at hf hx
      have ox := snd_at SL hx
      obtain ⟨b', o', rfl, hbb, x1, x2, x3, x4⟩ := (hold.keep HB) k x hx
      have TK := hide (less_take (o := m) hx)
      have CK := CR.out k hk
      have MT := hide (fun W H => meeting_any (v := .slice (some ⟨b, o, none⟩) m.length c) (r := x) sm (by omega) W H)
      have FT := from_to sm (show x.1 ≤ x.2 + 1 by omega)
      have TL := to_le m x.2
      have HLn := holes_len m x
      have fh : FitL (holesL m x) := fun y hy => by
        obtain ⟨j, hj⟩ := List.getElem?_of_mem hy
        exact fit_at fm (holes_at hj).2
      have KB : k * (m.length + 1) ≤ 600 * 601 := Nat.mul_le_mul (by omega) (by omega)
      have RA := hide (fun (W : World) (HO : Own W w.heap.size v' (lessL (l.take k) m)) (hW : Below w.heap.size w W) (pp : Option Go.Addr) (hp : (if c = fromS m x.1 then some ⟨b, o, none⟩ else some ⟨b, o + fromS m x.1 * 4, none⟩) = pp) (cc : Nat) =>
        rest_any (r := x) (p := pp) (c := cc) fx fh (by omega) W HO hW.size (hp ▸ holes_old hu.1 hc (hu.step hW)))
      rw [HLn] at RA
      clear hx HLn
      generalize fromS m x.1 = f at *
      generalize toS m x.2 = t at *
      generalize restL x (holesL m x) = rest at *
      go_wp2_with fail
      clear x1 x2 x3 x4
      have F1 := four_new wr x 36
      have HB1 := chain HB (below_alloc wr (.cells #[.int .u64 (hi x.1 : Nat), .int .u64 (lo x.1 : Nat), .int .u64 (hi x.2 : Nat), .int .u64 (lo x.2 : Nat)] 36))
      have HO1 := own_keep hown (below_alloc wr (.cells #[.int .u64 (hi x.1 : Nat), .int .u64 (lo x.1 : Nat), .int .u64 (hi x.2 : Nat), .int .u64 (lo x.2 : Nat)] 36))
      generalize wr.heap.size = X at F1 ⊢
      refine (MT.out _ (hU.step HB1)).mono ?_
      rintro e w3 ⟨rfl, hb3⟩
      have F3 := F1.step hb3
      have HB3 := chain HB1 hb3
      have HO3 := own_keep HO1 hb3
      clear hb3 HB1 HO1 F1 hown HB
      obtain ⟨y0, ⟨y1, y2, y3, y4⟩, _⟩ := id F3
      have G1 : (f : Int) ≤ (t : Int) := by omega
      have G2 : (t : Int) ≤ (c : Int) := by omega
      go_wp2_with fail
      go_region_with ((go_at_call 44; generalize hpp : (if c = f then some (⟨b, o, none⟩ : Go.Addr) else some ⟨b, o + f * 4, none⟩) = pp; refine (RA.out _ (own_keep HO3 (below_drew _)) (chain HB3 (below_drew _)) pp hpp _).mono ?_; clear hpp; rintro e w4 ⟨v4, rfl, hb4, ho4⟩))
      all_goals
        have HB4 : Below w.heap.size w w4 := (chain HB3 (below_drew _)).trans hb4
        rw [← TK.out] at ho4
        clear hb4 HB3 HO3 F3 y0 y1 y2 y3 y4 RA MT
        go_wp2
        go_roundw
        case rel => exact ⟨k + 1, v4, hlt, by go_num, rfl, HB4, ho4⟩
        case measure => simp [intOf]; omega
    · have e : l.take k = l := List.take_of_length_le (by omega)
      rw [e] at hown
      clear e
      go_wp2
      go_ret2
      exact ⟨_, rfl, HB, hown⟩

set_option maxRecDepth 100000 in
set_option maxHeartbeats 1000000 in
theorem less_none {p : Option Go.Addr} {c : Nat} {v : Value} {l : List Rg} (hf : FitL l) (hs : soundL l = true) (hl : l.length ≤ 600) (hpc : p = none → c = 0) (w : World) (hv : Lst v l w) :
    Calls Tryz.prog 23 #[v, .slice p 0 c] w (PutGives (lessL l []) w) := by
  have S1 := hide (fun W H => via (sound_any (v := v) hf (by omega) W H) (v' := .bool true) (by rw [hs]))
  have S2 := hide (fun W => sound_none p c W)
  obtain ⟨pv, cv, rfl, hold⟩ := lst_old hv
  have CR := hide (fun k (h : k ≤ l.length) => crude (l := l) (o := []) k h)
  go_enter Tryz.func23, Tryz.ntmps23
  go_wp2_with fail
  refine (S1.out _ hv).mono ?_
  rintro e w1 ⟨rfl, hb1⟩
  go_wp2_with fail
  refine (S2.out _).mono ?_
  rintro e w2 ⟨rfl, hb2⟩
  have HB0 := chain hb1 hb2
  clear hb1 hb2 S1 S2
  go_wp2
  go_loopw [6, 21] (fun s6 i wr => ∃ (k : Nat) (v' : Value), k ≤ l.length ∧ i = .int .i64 (k : Nat) ∧ v' = s6 ∧ Below w.heap.size w wr ∧ Own wr w.heap.size v' (lessL (l.take k) [])) (fun _ i _ => l.length - (intOf i).toNat)
  case atStart => exact ⟨0, _, Nat.zero_le _, rfl, rfl, HB0, World.ownsRow_nil _ _ _ _⟩
  case round =>
    obtain ⟨k, v', hk, rfl, rfl, HB, hown⟩ := hrel
    clear HB0
    by_cases hlt : k < l.length
    · obtain ⟨x, hx⟩ := get_some hlt
      have fx := fit_at hf hx
      obtain ⟨b', o', rfl, hbb, x1, x2, x3, x4⟩ := (hold.keep HB) k x hx
      have TK := hide (less_take (o := []) hx)
      have CK := CR.out k hk
      have MT := hide (fun W => meeting_none p c x W)
      have RA := hide (fun (W : World) (HO : Own W w.heap.size v' (lessL (l.take k) [])) (hW : Below w.heap.size w W) (pp : Option Go.Addr) (cc : Nat) =>
        rest_any (r := x) (p := pp) (c := cc) (hs := []) fx (fun y hy => by cases hy) (by simp only [List.length_nil] at *; omega) W HO hW.size (fun j y hj => by simp at hj))
      rw [show holesL [] x = [] by simp [holesL]] at TK
      clear hx
      generalize restL x [] = rest at *
      go_wp2_with fail
      clear x1 x2 x3 x4
      have F1 := four_new wr x 36
      have HB1 := chain HB (below_alloc wr (.cells #[.int .u64 (hi x.1 : Nat), .int .u64 (lo x.1 : Nat), .int .u64 (hi x.2 : Nat), .int .u64 (lo x.2 : Nat)] 36))
      have HO1 := own_keep hown (below_alloc wr (.cells #[.int .u64 (hi x.1 : Nat), .int .u64 (lo x.1 : Nat), .int .u64 (hi x.2 : Nat), .int .u64 (lo x.2 : Nat)] 36))
      generalize wr.heap.size = X at F1 ⊢
      refine (MT.out _).mono ?_
      rintro e w3 ⟨rfl, hb3⟩
      have F3 := F1.step hb3
      have HB3 := chain HB1 hb3
      have HO3 := own_keep HO1 hb3
      clear hb3 HB1 HO1 F1 hown HB
      obtain ⟨y0, ⟨y1, y2, y3, y4⟩, _⟩ := id F3
      cases p with
      | none =>
        obtain rfl := hpc rfl
        go_wp2_with fail
        go_region_with ((go_at_call 44; refine (RA.out _ (own_keep HO3 (below_drew _)) (chain HB3 (below_drew _)) none 0).mono ?_; rintro e w4 ⟨v4, rfl, hb4, ho4⟩))
        all_goals
          have HB4 : Below w.heap.size w w4 := (chain HB3 (below_drew _)).trans hb4
          rw [← TK.out] at ho4
          clear hb4 HB3 HO3 F3 y0 y1 y2 y3 y4 RA MT
          go_wp2
          go_roundw
          case rel => exact ⟨k + 1, v4, hlt, by go_num, rfl, HB4, ho4⟩
          case measure => simp [intOf]; omega
      | some ad =>
        go_wp2_with fail
        go_region_with ((go_at_call 44; refine (RA.out _ (own_keep HO3 (below_drew _)) (chain HB3 (below_drew _)) (some ad) _).mono ?_; rintro e w4 ⟨v4, rfl, hb4, ho4⟩))
        all_goals
          have HB4 : Below w.heap.size w w4 := (chain HB3 (below_drew _)).trans hb4
          rw [← TK.out] at ho4
          clear hb4 HB3 HO3 F3 y0 y1 y2 y3 y4 RA MT
          go_wp2
          go_roundw
          case rel => exact ⟨k + 1, v4, hlt, by go_num, rfl, HB4, ho4⟩
          case measure => simp [intOf]; omega
    · have e : l.take k = l := List.take_of_length_le (by omega)
      rw [e] at hown
      clear e
      go_wp2
      go_ret2
      exact ⟨_, rfl, HB, hown⟩
set_option maxRecDepth 100000 in
set_option maxHeartbeats 400000 in
theorem less_bad {v u : Value} {l m : List Rg} (hf : FitL l) (fm : FitL m) (hl : l.length ≤ 600) (hm : m.length ≤ 600) (hbad : soundL l = false ∨ soundL m = false) (w : World) (hv : Lst v l w) (hu : Lst u m w) :
    Calls Tryz.prog 23 #[v, u] w (Gives (.tuple #[.slice none 0 0, .int .i64 1]) w) := by
  have S1 := hide (fun W H => sound_any (v := v) hf (by omega) W H)
  have S2 := hide (fun W H => sound_any (v := u) fm (by omega) W H)
  obtain ⟨pv, cv, hv'⟩ := lst_len hv
  obtain ⟨pu, cu, hu'⟩ := lst_len hu
  subst hv' hu'
  cases e1 : soundL l with
  | false =>
    rw [e1] at S1
    go_enter Tryz.func23, Tryz.ntmps23
    go_wp2_with fail
    refine (S1.out _ hv).mono ?_
    rintro e w1 ⟨rfl, hb1⟩
    go_wp2
    go_ret2
    exact ⟨rfl, hb1⟩
  | true =>
    have e2 : soundL m = false := hbad.elim (fun e => by rw [e1] at e; cases e) id
    rw [e1] at S1
    rw [e2] at S2
    clear e1 e2 hbad
    go_enter Tryz.func23, Tryz.ntmps23
    go_wp2_with fail
    refine (S1.out _ hv).mono ?_
    rintro e w1 ⟨rfl, hb1⟩
    go_wp2_with fail
    refine (S2.out _ (hu.step hb1)).mono ?_
    rintro e w2 ⟨rfl, hb2⟩
    go_wp2
    go_ret2
    exact ⟨rfl, chain hb1 hb2⟩
theorem less_any {v u : Value} {l m : List Rg} (hf : FitL l) (fm : FitL m) (hs : soundL l = true) (hsm : soundL m = true) (hl : l.length ≤ 600) (hm : m.length ≤ 600) (w : World) (hv : Lst v l w) (hu : Lst u m w) :
    Calls Tryz.prog 23 #[v, u] w (PutGives (lessL l m) w) := by
  rcases hu with ⟨p, c, rfl, rfl, hpc, _⟩ | ⟨b, o, c, rfl, hr, hc, hne, hcb⟩
  · exact less_none hf hs hl hpc w hv
  · exact less_some hf fm hs hsm hl hm w hv hr hc hcb hne
end Go.Proofs.YtfmhpnendcikoaaGreat
