/-
  The contracts of take and read. Conditions: an area has at most 2^60 bytes; at most 128 options of at most 4096 bytes each are gathered.
-/
import Derived.Test.YtmoklodaeicpgaaOpK
namespace Go.Proofs.Ytmoklodaeicpgaa
open Go.RowKit Go.Joins Go.Maps

theorem lb_sub (s : ByteArray) (o n : Nat) : lb (sub s o n) = ((lb s).drop o).take n := sub_list s o n
theorem lb_inj {s t : ByteArray} (h : lb s = lb t) : s = t := by rw [← bs_lb s, h, bs_lb]
theorem int_eq {k : IntKind} {a b : Int} (h : a = b) : Value.int k a = .int k b := by rw [h]
def TakeG (s : ByteArray) (a : Nat) (w : World) (e : Ending) (w2 : World) : Prop := w = w2 ∧
  ((∃ k r, (lb s).drop a = k :: r ∧ ¬ r.length < k.toNat ∧ e = .returned (.tuple #[.string (bs (r.take k.toNat)), .int .i64 ((a + 1 + k.toNat : Nat) : Int), .bool true])) ∨
   (((lb s).drop a = [] ∨ ∃ k r, (lb s).drop a = k :: r ∧ r.length < k.toNat) ∧ ∃ n : Int, e = .returned (.tuple #[.string ⟨#[]⟩, .int .i64 n, .bool false])))
set_option maxRecDepth 100000 in
set_option maxHeartbeats 1000000 in
theorem take_any (s : ByteArray) (hs : s.size ≤ 1152921504606846976) (a : Nat) (ha : a ≤ s.size) (w : World) :
    Calls Try.prog 59 #[.string s, .int .i64 (a : Nat)] w (TakeG s a w) := by
  have hsm : s.size ≤ maxLen := by unfold maxLen; omega
  have C1 := cut_any s hsm (a := (a : Nat)) (n := 1) (by unfold I64; omega) (by unfold I64; omega) w
  have hll : (lb s).length = s.size := lb_len s
  cases hr : (lb s).drop a with
  | nil =>
    have hl : s.size ≤ a := by
      have := congrArg List.length hr
      rw [List.length_drop, hll] at this
      simp at this; omega
    have e1 : cutO s (a : Nat) 1 = false := by unfold cutO; rw [decide_eq_false]; omega
    rw [cut_no e1, e1] at C1
    have R := hide hr
    have C := hide C1
    clear C1 hr e1
    go_enter Try.func59, Try.ntmps59
    go_wp2_with fail
    refine C.out.mono ?_
    rintro e w' ⟨rfl, rfl⟩
    go_wp2
    go_ret3
    exact ⟨rfl, Or.inr ⟨Or.inl R.out, 0, rfl⟩⟩
  | cons k r =>
    have hlen : s.size - a = r.length + 1 := by
      have := congrArg List.length hr
      rw [List.length_drop, hll, List.length_cons] at this
      exact this
    have hk := k.toNat_lt
    have e1 : cutO s (a : Nat) 1 = true := by unfold cutO; rw [decide_eq_true_eq]; omega
    have es : sub s a 1 = bs [k] := lb_inj (by rw [lb_sub, hr, lb_bs]; rfl)
    have hd : (lb s).drop (a + 1) = r := by rw [← List.drop_drop, hr]; rfl
    rw [cut_yes e1, show ((a : Nat) : Int).toNat = a by omega, show (1 : Int).toNat = 1 from rfl, es, e1] at C1
    have C2 := cut_any s hsm (a := ((a : Nat) : Int) + 1) (n := (k.toNat : Int)) (by unfold I64; omega) (by unfold I64; omega) w
    have G0 : ∀ (h : 0 < (bs [k]).size), (bs [k])[0]'h = k := fun _ => rfl
    have WR : wrap64 (k.toNat : Int) = (k.toNat : Int) := IntWalk.wrap64_in _ ⟨by omega, by omega⟩
    by_cases h : r.length < k.toNat
    · have e2 : cutO s (((a : Nat) : Int) + 1) (k.toNat : Int) = false := by unfold cutO; rw [decide_eq_false]; omega
      rw [cut_no e2, e2] at C2
      have R := hide hr
      have C := hide C1
      have D := hide C2
      clear C1 C2 hr e1 e2 es hd
      go_enter Try.func59, Try.ntmps59
      go_wp2_with fail
      refine C.out.mono ?_
      rintro e w' ⟨rfl, rfl⟩
      go_wp2_with fail
      refine D.out.mono ?_
      rintro e w' ⟨rfl, rfl⟩
      go_wp2
      go_ret3
      exact ⟨rfl, Or.inr ⟨Or.inr ⟨k, r, R.out, h⟩, _, rfl⟩⟩
    · have e2 : cutO s (((a : Nat) : Int) + 1) (k.toNat : Int) = true := by unfold cutO; rw [decide_eq_true_eq]; omega
      have es2 : sub s (a + 1) k.toNat = bs (r.take k.toNat) := lb_inj (by rw [lb_sub, hd, lb_bs])
      rw [cut_yes e2, show (((a : Nat) : Int) + 1).toNat = a + 1 by omega, show ((k.toNat : Nat) : Int).toNat = k.toNat by omega, es2, e2] at C2
      have hsz : (bs (r.take k.toNat)).size = k.toNat := by rw [bs_size, List.length_take]; omega
      have R := hide hr
      have EQ : ∃ q, Hid (bs (r.take k.toNat) = q) := ⟨_, hide rfl⟩
      obtain ⟨q, EQ⟩ := EQ
      have C := hide C1
      have D := C2
      clear C1 C2 hr e1 e2 es hd es2
      rw [EQ.out] at D hsz
      have D := hide D
      have QW : wrap64 (((a : Nat) : Int) + 1 + (k.toNat : Int)) = ((a : Nat) : Int) + 1 + (k.toNat : Int) := IntWalk.wrap64_in _ ⟨by omega, by omega⟩
      go_enter Try.func59, Try.ntmps59
      go_wp2_with fail
      refine C.out.mono ?_
      rintro e w' ⟨rfl, rfl⟩
      go_wp2_with fail
      refine D.out.mono ?_
      rintro e w' ⟨rfl, rfl⟩
      go_wp2
      go_ret3
      exact ⟨rfl, Or.inl ⟨k, r, R.out, h, congrArg Ending.returned (tup3 (by rw [EQ.out]; rfl) (int_eq (by omega)) rfl)⟩⟩
end Go.Proofs.Ytmoklodaeicpgaa
