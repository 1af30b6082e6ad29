/-
  The reader's options, and Parse: what they return, where they give up. Condition: a string is no longer than an int.
-/
import Derived.Test.YtcpldojgmboipaaSxR
namespace Go.Proofs.Ytcpldojgmboipaa
open Go.RowKit Go.Joins

theorem opt_code {s : ByteArray} (hs : s.size ≤ maxLen) (h1 : ¬ (lb s).length < 4) {b : Nat} {w : World} (h : Rd b s w) :
    Calls Try.prog 58 #[.pointer (some ⟨b, 0, none⟩)] w (Reads b (.int .u16 ((optP (lb s)).1.toNat : Int)) (bs ((lb s).drop 2)) w) := by
  rw [lb_len] at h1
  have e : ((optP (lb s)).1.toNat : Int) = (num 2 s : Nat) := by
    show (((UInt16.ofNat (num 2 s)).toNat : Nat) : Int) = _
    rw [UInt16.toNat_ofNat', Nat.mod_eq_of_lt (num_lt 2 s)]
  rw [e]
  exact take16_ok hs (by omega) h
theorem run_of {s : ByteArray} : runN (bs ((lb s).drop 2)) = lenP (lb s) ∧ bs (runD (bs ((lb s).drop 2))) = (optP (lb s)).2 ∧ bs ((lb (bs ((lb s).drop 2))).drop (2 + lenP (lb s))) = bs (restP (lb s)) := by
  have e : runN (bs ((lb s).drop 2)) = lenP (lb s) := by
    unfold runN num lenP; rw [lb_bs]
  refine ⟨e, ?_, ?_⟩
  · show bs _ = bs (dataP (lb s))
    unfold runD dataP
    rw [e, lb_bs, List.drop_drop]
  · rw [lb_bs, List.drop_drop]
    unfold restP
    rw [show 2 + (2 + lenP (lb s)) = 4 + lenP (lb s) by omega]
theorem opt_data {s : ByteArray} (hs : s.size ≤ maxLen) (h1 : ¬ (lb s).length < 4) (h2 : ¬ (lb s).length < 4 + lenP (lb s)) {b : Nat} {w : World} (h : Rd b (bs ((lb s).drop 2)) w) :
    Calls Try.prog 59 #[.pointer (some ⟨b, 0, none⟩)] w (Reads b (.string (optP (lb s)).2) (bs (restP (lb s))) w) := by
  rw [lb_len] at h1 h2
  obtain ⟨e1, e2, e3⟩ := run_of (s := s)
  have hz : (bs ((lb s).drop 2)).size = s.size - 2 := by rw [bs_len, List.length_drop, lb_len]
  have := takeRun_ok (s := bs ((lb s).drop 2)) (by rw [hz]; omega) (by omega) (by rw [e1]; omega) h
  rw [e1, e2, e3] at this
  exact this
theorem opt_none {s : ByteArray} (hs : s.size ≤ maxLen) (h1 : ¬ (lb s).length < 2) (h2 : (lb s).length < 4 ∨ (lb s).length < 4 + lenP (lb s)) {b : Nat} {w : World} (h : Rd b (bs ((lb s).drop 2)) w) :
    Calls Try.prog 59 #[.pointer (some ⟨b, 0, none⟩)] w (Dies 3 (At b) w) := by
  rw [lb_len] at h1 h2
  obtain ⟨e1, e2, e3⟩ := run_of (s := s)
  have hz : (bs ((lb s).drop 2)).size = s.size - 2 := by rw [bs_len, List.length_drop, lb_len]
  exact takeRun_no (s := bs ((lb s).drop 2)) (by rw [hz]; omega) (by rw [e1]; omega) h
def sliceLen : Value → Nat
  | .slice _ n _ => n
  | _ => 0
def OptsP (b : Nat) (s : ByteArray) (w : World) (e : Ending) (w' : World) : Prop :=
  match parseK 0 (lb s) with
  | .ok l => ∃ v, e = .returned v ∧ OwnO w' w.heap.size v l ∧ Rd b (bs []) w' ∧ Fr (At b) w w'
  | .error x => Dies x (At b) w e w'
theorem opts_ok {b : Nat} {s : ByteArray} {l : List Opt} {w w' : World} {v : Value} (h : parseK 0 (lb s) = .ok l) (h1 : OwnO w' w.heap.size v l) (h2 : Rd b (bs []) w') (h3 : Fr (At b) w w') : OptsP b s w (.returned v) w' := by
  unfold OptsP; rw [h]; exact ⟨v, rfl, h1, h2, h3⟩
theorem opts_no {b : Nat} {s : ByteArray} {x : Int} {w w' : World} (h : parseK 0 (lb s) = .error x) (h3 : Fr (At b) w w') : OptsP b s w (.panicked (Chain x)) w' := by
  unfold OptsP; rw [h]; exact ⟨rfl, h3⟩
theorem addP_error {pre : List Opt} {x : Int} {y : Except Int (List Opt)} (h : y = .error x) : addP pre y = .error x := by subst h; rfl
theorem empty_iff (s : ByteArray) : lb s = [] ↔ s = ⟨#[]⟩ := by
  constructor
  · intro h; rw [← bs_lb s, h]
  · intro h; subst h; rfl
theorem own_fr_new {w W W2 : World} {S : Nat → Prop} {v : Value} {l : List Opt} (h : OwnO W w.heap.size v l) (k : Fr S W W2) (hS : ∀ i, S i → i < w.heap.size) : OwnO W2 w.heap.size v l := by
  refine own_fr h k (fun i hi hs => ?_)
  have := hS i hs
  rcases h.2 with ⟨rfl, _⟩ | ⟨g, cap, cur, rfl, hb, _⟩
  · cases hi
  · cases hi
    have : g < w.heap.size := this
    omega
set_option maxRecDepth 100000 in
set_option maxHeartbeats 1000000 in
theorem options_any {b : Nat} {s : ByteArray} (hs : s.size ≤ maxLen) {w : World} (h : Rd b s w) :
    Calls Try.prog 28 #[.pointer (some ⟨b, 0, none⟩)] w (OptsP b s w) := by
  have lb0 := h.lt
  have T16 := hide (fun (r : ByteArray) (hr : r.size ≤ maxLen) (h1 : ¬ (lb r).length < 4) W (h : Rd b r W) => opt_code hr h1 h)
  have N16 := hide (fun (r : ByteArray) (hr : r.size ≤ maxLen) (h1 : r.size < 2) W (h : Rd b r W) => take16_no hr h1 h)
  have M1 := hide (fun W => must_yes 6 W)
  have M0 := hide (fun W => must_no 6 W)
  have P0 := hide (addP_nil (parseK 0 (lb s)))
  have H0 := hide h
  clear h
  go_enter Try.func28, Try.ntmps28
  go_wp2
  go_loopw [3] (fun v wr => ∃ (l : List Opt) (p : Option Go.Addr) (c : Nat) (r : ByteArray), v = .slice p l.length c ∧ l.length ≤ 128 ∧ Hid (addP l (parseK l.length (lb r)) = parseK 0 (lb s)) ∧ Hid (OwnO wr w.heap.size (.slice p l.length c) l) ∧ Hid (Rd b r wr) ∧ Hid (Fr (At b) w wr) ∧ Hid (r.size ≤ maxLen)) (fun v _ => 129 - sliceLen v)
  case atStart => exact ⟨[], none, 0, s, rfl, Nat.zero_le _, P0, hide (ownO_nil _ _), H0, hide (Fr.refl _ _), hide hs⟩
  case round =>
    clear P0 H0 hs
    obtain ⟨l, p, c, r, rfl, hl, HT, HO, HR, HF, HS⟩ := hrel
    have c0 := HR.out.cell
    have fsz := HF.out.size
    by_cases h0 : lb r = []
    · have hr := (empty_iff r).1 h0
      subst hr
      have HE := hide (show parseK 0 (lb s) = .ok l by rw [← HT.out, h0, parse_nil]; simp [addP])
      clear HT HS h0 T16 N16 M1 M0
      go_wp2
      go_ret
      exact opts_ok HE.out HO.out HR.out HF.out
    · have hne : r.toList.isEmpty = false := by rw [ByteArray.toList_eq]; simpa using h0
      by_cases h1 : r.size < 2
      · have HE := hide (show parseK 0 (lb s) = .error 3 by rw [← HT.out]; exact addP_error (parse_short h0 (by rw [lb_len]; omega)))
        clear HT
        go_wp2_with fail
        refine (N16.out r HS.out h1 _ HR.out).mono ?_
        rintro e w1 ⟨rfl, h2⟩
        exact ⟨rfl, opts_no HE.out (HF.out.trans h2 (fun _ _ e => e))⟩
      · by_cases h2 : (lb r).length < 4 ∨ (lb r).length < 4 + lenP (lb r)
        · have HE := hide (show parseK 0 (lb s) = .error 3 by
            rw [← HT.out]
            rcases h2 with h2 | h2
            · exact addP_error (parse_short h0 h2)
            · by_cases h4 : (lb r).length < 4
              · exact addP_error (parse_short h0 h4)
              · exact addP_error (parse_cut h4 h2))
          have TK := hide (take16_ok HS.out (by omega) HR.out)
          have NO := hide (fun W (h : Rd b (bs ((lb r).drop 2)) W) => opt_none HS.out (by rw [lb_len]; exact h1) h2 h)
          clear HT HS HR h0 h1 h2 T16 N16 M1 M0
          go_wp2_with fail
          refine TK.out.mono ?_
          rintro e w1 ⟨rfl, g1, g2⟩
          go_wp2_with fail
          refine (NO.out _ g1).mono ?_
          rintro e w2 ⟨rfl, g3⟩
          exact ⟨rfl, opts_no HE.out ((HF.out.trans g2 (fun _ _ e => e)).trans g3 (fun _ _ e => e))⟩
        · have h3 : ¬ (lb r).length < 4 := fun e => h2 (Or.inl e)
          have h4 : ¬ (lb r).length < 4 + lenP (lb r) := fun e => h2 (Or.inr e)
          have TK := hide (T16.out r HS.out h3 _ HR.out)
          have RN := hide (fun W (h : Rd b (bs ((lb r).drop 2)) W) => opt_data HS.out h3 h4 h)
          have hlr := restP_len h3
          have HS2 := hide (show (bs (restP (lb r))).size ≤ maxLen by have := HS.out; rw [bs_len]; rw [lb_len] at hlr; omega)
          by_cases h5 : l.length < 128
          · have HT2 := hide (show addP (l ++ [optP (lb r)]) (parseK (l.length + 1) (lb (bs (restP (lb r))))) = parseK 0 (lb s) by
              rw [← HT.out, parse_step h3 h4 (by omega), addP_add, lb_bs])
            generalize optP (lb r) = x at *
            generalize bs (restP (lb r)) = r2 at *
            generalize bs ((lb r).drop 2) = r1 at *
            have h6 : (l.length : Int) < 128 := by omega
            clear HT HS HR h0 h1 h2 h3 h4 T16 N16 M0 hlr
            go_wp2_with fail
            refine TK.out.mono ?_
            rintro e w1 ⟨rfl, g1, g2⟩
            go_wp2_with fail
            refine (RN.out _ g1).mono ?_
            rintro e w2 ⟨rfl, g3, g4⟩
            have F2 := hide ((HF.out.trans g2 (fun _ _ e => e)).trans g4 (fun _ _ e => e))
            have O2 := hide (own_fr_new HO.out (g2.trans g4 (fun _ _ e => e)) (fun i hi => by omega))
            have R2 := hide g3
            clear HO HF g1 g2 g3 g4 TK RN c0
            go_wp2_with fail
            refine (M1.out _).mono ?_
            rintro e w3 ⟨rfl, rfl⟩
            have s2 := F2.out.size
            have O3 := hide (World.ownsRow.alloc O2.out (.cells #[.int .u16 (x.1.toNat : Int), .string x.2] 40))
            have F3 := hide (F2.out.andNo (Fr.alloc w2 (.cells #[.int .u16 (x.1.toNat : Int), .string x.2] 40)))
            have R3 := hide (R2.out.step (below_alloc w2 (.cells #[.int .u16 (x.1.toNat : Int), .string x.2] 40)))
            clear O2 F2 R2
            go_wp2_with (at_builtin; refine wpList_append_oneO rfl (.tmp 19) (.tmp 23) rfl w.heap.size _ l rfl O3.out w2.heap.size 1 x rfl own_two (by omega) F3.out.size ?_; intro g cap w4 q1 q2 q3 q4)
            have R4 := hide (R3.out.fr (Fr.grown q3) (fun e => by have := O3.out.lt b e.symm; omega))
            have F4 := hide (show Fr (At b) w w4 from F3.out.trans (Fr.grown q3) (fun i hi e => by have := O3.out.lt i e.symm; omega))
            have Q1 := hide q1
            clear q1 q2 q3 q4 O3 F3 R3
            go_wp2
            go_roundw
            case rel => exact ⟨l ++ [x], some ⟨g, 0, none⟩, cap, r2, by rw [List.length_append]; rfl, by rw [List.length_append]; exact h5, by rw [List.length_append]; exact HT2, by rw [List.length_append]; exact Q1, R4, F4, HS2⟩
            case measure => simp [sliceLen]; omega
          · have HE := hide (show parseK 0 (lb s) = .error 6 by rw [← HT.out]; exact addP_error (parse_many h3 h4 (by omega)))
            have h6 : ¬ (l.length : Int) < 128 := by omega
            clear HT HS HR h0 h1 h2 h3 h4 T16 N16 M1 HS2 hlr
            go_wp2_with fail
            refine TK.out.mono ?_
            rintro e w1 ⟨rfl, g1, g2⟩
            go_wp2_with fail
            refine (RN.out _ g1).mono ?_
            rintro e w2 ⟨rfl, g3, g4⟩
            go_wp2_with fail
            rw [decide_eq_false (show ¬ (l.length : Int) < 128 by omega)]
            refine (M0.out _).mono ?_
            rintro e w3 ⟨rfl, rfl⟩
            exact ⟨rfl, opts_no HE.out ((HF.out.trans g2 (fun _ _ e => e)).trans g4 (fun _ _ e => e))⟩
end Go.Proofs.Ytcpldojgmboipaa
