/-
  The document's own word and statuses. Conditions: a string is no longer than an int; a row takes at most 2^47 bytes.
-/
import Derived.Test.YtcpldojgmboipaaSrA
import Derived.Test.YtcpldojgmboipaaSxV
namespace Go.Proofs.Ytcpldojgmboipaa
open Go.RowKit Go.Joins

set_option maxRecDepth 100000 in
theorem rword_any {s : ByteArray} (hs : s.size ≤ maxLen) {n : Nat} (hn : n + 4 ≤ s.size) (w : World) : Calls Try.prog 56 #[.string s, .int .i64 (n : Int)] w (Same (.int .u32 ((W4 s n).toNat : Int)) w) := by
  have hs2 : s.size ≤ 9223372036854775807 := by unfold maxLen at hs; exact hs
  have G := hide (fun W => get32_ref s hs (show I64 (n : Int) by unfold I64; omega) W)
  obtain ⟨g1, g2, _⟩ := getV_off (s := s) (k := n) (n := 4) hn
  have e : ((W4 s n).toNat : Int) = (getV 4 s (n : Int) : Nat) := by
    rw [g2, UInt32.toNat_ofNat', Nat.mod_eq_of_lt (by have := beL4 (l := ((lb s).drop n).take 4) (by rw [List.length_take, List.length_drop, lb_len]; omega); omega)]
  rw [e]
  generalize getV 4 s (n : Int) = v at *
  generalize cutO s (n : Int) 4 = o at *
  clear g1 g2 e hs hs2 hn
  go_enter Try.func56, Try.ntmps56
  go_wp2_with fail
  refine (G.out _).mono ?_
  rintro e w' ⟨rfl, rfl⟩
  go_wp2
  go_ret
  exact ⟨rfl, rfl⟩
theorem W4_head {s : ByteArray} {m n : Nat} (h : n + 4 ≤ m) : W4 (bs ((lb s).take m)) n = W4 s n := by
  unfold W4
  rw [lb_bs, List.drop_take, List.take_take, Nat.min_eq_left (by omega)]
/-- what statuses answers -/
def stE (l : List Opt) : Int := match statF (-1) l with | .ok _ => 0 | .error y => y
def stV (l : List Opt) : Int := match statF (-1) l with | .ok c => c | .error _ => 0
theorem st_ok {l : List Opt} {c : Int} (h : statF (-1) l = .ok c) : stE l = 0 ∧ stV l = c := by unfold stE stV; rw [h]; exact ⟨rfl, rfl⟩
theorem st_no {l : List Opt} {y : Int} (h : statF (-1) l = .error y) : stE l = y ∧ stV l = 0 := by unfold stE stV; rw [h]; exact ⟨rfl, rfl⟩
set_option maxRecDepth 100000 in
set_option maxHeartbeats 4000000 in
theorem rstatuses_any {v : Value} {l : List Opt} (ok : okO l) (hl : l.length ≤ 1000) (w : World) (hv : LstO v l w) : Calls Try.prog 81 #[v] w (Same (.tuple #[.int .i64 (stV l), .int .i64 (stE l)]) w) := by
  obtain ⟨p, c, rfl⟩ := lstO_len hv
  have hcl := (lstO_cap hv).2.1
  have HV := hide hv
  have OK := hide ok
  have GO := hide (fun c (h : statF (-1) l = .ok c) => st_ok h)
  have GN := hide (fun y (h : statF (-1) l = .error y) => st_no h)
  clear hv ok
  go_enter Try.func81, Try.ntmps81
  go_wp2_with fail
  go_loopw [4, 5] (fun vc vi wr => ∃ (k : Nat) (d : Int), k ≤ l.length ∧ vi = .int .i64 (k : Nat) ∧ vc = .int .i64 d ∧ -1 ≤ d ∧ Hid (statF d (l.drop k) = statF (-1) l) ∧ wr = w) (fun _ vi _ => l.length - (intOf vi).toNat)
  case atStart => exact ⟨0, -1, Nat.zero_le _, rfl, rfl, by omega, hide rfl, rfl⟩
  case round =>
    obtain ⟨k, d, hk, rfl, rfl, hd, HT, rfl⟩ := hrel
    by_cases hlt : k < l.length
    · obtain ⟨x, hx⟩ := getO_some hlt
      obtain ⟨b, o, rfl, _, x1, x2⟩ := lstO_at HV.out hx
      have kc : k ≤ c := by omega
      have DR := hide (drop_at1 hx)
      have SZ := OK.out x (List.mem_of_getElem? hx)
      have GS := hide (fun W => rgetStatus_any (s := x.2) (by unfold maxLen; omega) W)
      by_cases h13 : x.1.toNat = 13
      · have e13 : ((x.1.toNat : Int) != 13) = false := by simpa using (show (x.1.toNat : Int) = 13 by omega)
        by_cases h2 : x.2.size < 2
        · have E := hide (GN.out 130 (by rw [← HT.out, DR.out, (statF_13 h13).1 h2]))
          rw [show getK x.2 = false by unfold getK; rw [decide_eq_false_iff_not]; omega] at GS
          generalize getC x.2 = gc at *
          clear hx h13 h2 HT DR SZ
          go_wp2_with fail
          refine (GS.out _).mono ?_
          rintro e w' ⟨rfl, rfl⟩
          go_wp2
          go_ret2
          exact ⟨congrArg Ending.returned (tup2 (by rw [E.out.2]; rfl) (by rw [E.out.1]; rfl)), rfl⟩
        · have HT2 := hide (show statF (if d = -1 then (beV ((lb x.2).take 2) : Nat) else d) (l.drop (k + 1)) = statF (-1) l by rw [← HT.out, DR.out, (statF_13 h13).2 h2])
          rw [show getK x.2 = true by unfold getK; rw [decide_eq_true_eq]; omega, show getC x.2 = ((beV ((lb x.2).take 2) : Nat) : Int) by unfold getC; rw [if_neg h2]; rfl] at GS
          have gn : -1 ≤ ((beV ((lb x.2).take 2) : Nat) : Int) := by omega
          generalize ((beV ((lb x.2).take 2) : Nat) : Int) = gc at *
          clear hx h13 h2 HT DR SZ
          by_cases h0 : d = -1
          · subst h0
            rw [if_pos rfl] at HT2
            go_wp2_with fail
            refine (GS.out _).mono ?_
            rintro e w' ⟨rfl, rfl⟩
            go_wp2
            go_roundw
            case rel => exact ⟨k + 1, gc, hlt, by go_num, rfl, gn, HT2, trivial⟩
            case measure => simp [intOf]; omega
          · rw [if_neg h0] at HT2
            have d0 : 0 ≤ d := by omega
            clear h0
            go_wp2_with fail
            refine (GS.out _).mono ?_
            rintro e w' ⟨rfl, rfl⟩
            go_wp2
            go_roundw
            case rel => exact ⟨k + 1, d, hlt, by go_num, rfl, hd, HT2, trivial⟩
            case measure => simp [intOf]; omega
      · have e13 : ((x.1.toNat : Int) != 13) = true := by simpa using (show ¬ (x.1.toNat : Int) = 13 by omega)
        have HT2 := hide (show statF d (l.drop (k + 1)) = statF (-1) l by rw [← HT.out, DR.out, statF_no h13])
        clear hx h13 HT DR SZ GS
        go_wp2
        go_roundw
        case rel => exact ⟨k + 1, d, hlt, by go_num, rfl, hd, HT2, trivial⟩
        case measure => simp [intOf]; omega
    · have : k = l.length := by omega
      subst this
      have E := hide (GO.out d (by rw [← HT.out, List.drop_length]; rfl))
      clear HT hlt
      go_wp2
      go_ret2
      exact ⟨congrArg Ending.returned (tup2 (by rw [E.out.2]; rfl) (by rw [E.out.1]; rfl)), rfl⟩
end Go.Proofs.Ytcpldojgmboipaa
