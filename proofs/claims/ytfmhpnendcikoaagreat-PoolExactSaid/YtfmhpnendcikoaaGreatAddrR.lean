/-
  Contract of Div64 at a high word that is not 0: the rest is the rest of the two words' number; the world stays as it is. Conditions: the divisor is greater than the high word; words of 64 bits; the steps before the first loop are as the equations among the premises say (shown to be so in the next text).
  Contracts of Div64 and Rem64: the rest of a number of two words by a word. Conditions: words of 64 bits, the divisor not 0 (Div64: greater than the high word); the world stays as it is, but for its count of draws.
-/
import Derived.Test.YtfmhpnendcikoaaGreatAddrL
import Derived.Test.YtfmhpnendcikoaaGreatAddrK
import Derived.Deep.QuietTactic
import Derived.BigQuiet
namespace Go.Proofs.YtfmhpnendcikoaaGreat
open Go.RowKit
def W64lt (x : Nat) : Prop := x < 18446744073709551616
theorem bne0 {x : Nat} (h : 0 < x) : ((x : Int) == 0) = false := by simp; omega
def Divides (N y : Nat) (w : World) (e : Ending) (w' : World) : Prop := ∃ q : Int, e = .returned (.tuple #[.int .u64 q, .int .u64 (N % y : Nat)]) ∧ w = w'

theorem wrap_mul {a b : Nat} (h : a * b < 18446744073709551616) : IntKind.u64.wrap ((a : Int) * (b : Int)) = ((a * b : Nat) : Int) := by
  rw [← Int.natCast_mul, wrap_nat, Nat.mod_eq_of_lt h]
theorem wrap_diff {a b : Nat} (h : b ≤ a) (ha : a < 18446744073709551616) : IntKind.u64.wrap ((a : Int) - (b : Int)) = ((a - b : Nat) : Int) := by
  rw [show (a : Int) - (b : Int) = ((a - b : Nat) : Int) by omega, wrap_nat, Nat.mod_eq_of_lt (by omega)]
theorem wrap_quo (a b : Nat) (ha : a < 18446744073709551616) : IntKind.u64.wrap ((a : Int) / (b : Int)) = ((a / b : Nat) : Int) := by
  rw [← Int.natCast_ediv, wrap_nat, Nat.mod_eq_of_lt (Nat.lt_of_le_of_lt (Nat.div_le_self _ _) ha)]
theorem mul_lt32 {q y0 : Nat} (h : q < 4294967296) (h0 : y0 < 4294967296) : q * y0 < 18446744073709551616 := by
  have := Nat.mul_le_mul (show q ≤ 4294967295 by omega) (show y0 ≤ 4294967295 by omega)
  omega

theorem second {Y y1 y0 u u1 u0 : Nat} {qd : Int} (hY : Y = y1 * 4294967296 + y0) (hY2 : Y < 18446744073709551616) (b2 : y0 < 4294967296) (hy1 : 2147483648 ≤ y1) (b1 : y1 < 4294967296) (b4 : u0 < 4294967296)
    (h0 : 0 ≤ qd) (D : Digit Y u u1 qd.toNat) : ∃ v q2 t2 r2 : Nat,
    IntKind.u64.wrap (IntKind.u64.wrap (IntKind.u64.wrap ((u : Int) * 4294967296) + (u1 : Int)) - IntKind.u64.wrap (qd * (Y : Int))) = (v : Int) ∧
    IntKind.u64.wrap ((v : Int) / (y1 : Int)) = (q2 : Int) ∧ IntKind.u64.wrap ((q2 : Int) * (y1 : Int)) = (t2 : Int) ∧ IntKind.u64.wrap ((v : Int) - (t2 : Int)) = (r2 : Int) ∧
    Hid (v < Y) ∧ Hid (v = (u * 4294967296 + u1) % Y) ∧ Trial Y y1 v u0 q2 r2 ∧ r2 < 4294967296 := by
  obtain ⟨n, rfl⟩ := Int.eq_ofNat_of_zero_le h0
  rw [Int.toNat_natCast] at D
  have ⟨d1, d2⟩ := digit_rest D
  have hT := trial_first hY b2 hy1 d1 b4
  refine ⟨u * 4294967296 + u1 - n * Y, _, (u * 4294967296 + u1 - n * Y) / y1 * y1, _, ?_, wrap_quo _ _ (by omega), ?_, ?_, d1, d2, hT, ?_⟩
  · have e : (n : Int) * (Y : Int) = ((n * Y : Nat) : Int) := by rw [Int.natCast_mul]
    have d3 := D.1
    rw [e]
    simp only [IntKind.wrap_u64]
    generalize n * Y = M at *
    omega
  · exact wrap_mul (Nat.lt_of_le_of_lt (trial_rest hT) (by omega))
  · exact wrap_diff (trial_rest hT) (by omega)
  · have e := Nat.div_add_mod (u * 4294967296 + u1 - n * Y) y1
    have r := Nat.mod_lt (u * 4294967296 + u1 - n * Y) (show 0 < y1 by omega)
    rw [Nat.mul_comm] at e
    omega
theorem last {Y v u0 : Nat} {qd : Int} (hY2 : Y < 18446744073709551616) (h0 : 0 ≤ qd) (D : Digit Y v u0 qd.toNat) : ∃ z : Nat,
    IntKind.u64.wrap (IntKind.u64.wrap (IntKind.u64.wrap ((v : Int) * 4294967296) + (u0 : Int)) - IntKind.u64.wrap (qd * (Y : Int))) = (z : Int) ∧ Hid (z = (v * 4294967296 + u0) % Y) := by
  obtain ⟨n, rfl⟩ := Int.eq_ofNat_of_zero_le h0
  rw [Int.toNat_natCast] at D
  have ⟨d1, d2⟩ := digit_rest D
  refine ⟨v * 4294967296 + u0 - n * Y, ?_, d2⟩
  have e : (n : Int) * (Y : Int) = ((n * Y : Nat) : Int) := by rw [Int.natCast_mul]
  have d3 := D.1
  rw [e]
  simp only [IntKind.wrap_u64]
  generalize n * Y = M at *
  omega
theorem fin_eq {u u1 u0 v z Y s : Nat} {R : Nat} (hz : z = (v * 4294967296 + u0) % Y) (hv : v = (u * 4294967296 + u1) % Y) (hN : (u * 18446744073709551616 + (u1 * 4294967296 + u0)) % Y / 2 ^ s = R) :
    ((z : Nat) : Int) / 2 ^ s = ((R : Nat) : Int) := by
  rw [cast_div, hz, hv, two_rests, hN]

set_option maxRecDepth 100000 in
set_option maxHeartbeats 1000000 in
theorem div_core (h l y N Y y1 y0 H u L u1 u0 q1 t1 r1 : Nat) (w : World) (hy : ((y : Int) == 0) = false) (hh : ((h : Int) == 0) = false) (h1 : h < y) (h2 : W64lt y)
    (hs0 : (0 : Int) ≤ (lead y : Nat)) (hs1 : ((lead y : Nat) : Int) ≤ 63)
    (k1 : IntKind.u64.wrap ((y : Int) * 2 ^ lead y) = (Y : Int)) (k2 : (Y : Int) / 4294967296 = (y1 : Int)) (k3 : bits .and .u64 (Y : Int) 4294967295 = (y0 : Int))
    (k4 : IntKind.u64.wrap ((h : Int) * 2 ^ lead y) = (H : Int)) (k5 : bits .or .u64 (H : Int) ((l : Int) / 2 ^ (64 - lead y)) = (u : Int))
    (k6 : IntKind.u64.wrap ((l : Int) * 2 ^ lead y) = (L : Int)) (k7 : (L : Int) / 4294967296 = (u1 : Int)) (k8 : bits .and .u64 (L : Int) 4294967295 = (u0 : Int))
    (k9 : IntKind.u64.wrap ((u : Int) / (y1 : Int)) = (q1 : Int)) (k10 : IntKind.u64.wrap ((q1 : Int) * (y1 : Int)) = (t1 : Int)) (k11 : IntKind.u64.wrap ((u : Int) - (t1 : Int)) = (r1 : Int))
    (hY : Hid (Y = y1 * 4294967296 + y0)) (hu : Hid (u < Y)) (hN : Hid ((u * 18446744073709551616 + (u1 * 4294967296 + u0)) % Y / 2 ^ lead y = N % y))
    (ht : Trial Y y1 u u1 q1 r1)
    (hy1 : 2147483648 ≤ y1) (b1 : y1 < 4294967296)
    (b2 : y0 < 4294967296) (b3 : u1 < 4294967296) (b4 : u0 < 4294967296) (hY2 : Hid (Y < 18446744073709551616)) (b5 : r1 < 4294967296) :
    Calls Tryz.prog 72 #[.int .u64 h, .int .u64 l, .int .u64 y] w (Divides N y w) := by
  go_enter Tryz.func72, Tryz.ntmps72
  go_wp2_with fail
  refine (lead_any y _ h2).mono ?_
  rintro e w' ⟨rfl, rfl⟩
  go_wp2_with fail
  clear k1 k2 k3 k4 k5 k6 k7 k8 k9 k10 k11
  go_loop [15, 16] (fun a b => ∃ q r : Int, a = .int .u64 q ∧ b = .int .u64 r ∧ Trial Y y1 u u1 q.toNat r.toNat ∧ 0 ≤ q ∧ 0 ≤ r ∧ r < 4294967296 ∧ q ≤ 4294967297) (fun a _ => (intOf a).toNat)
  case atStart => exact ⟨(q1 : Int), (r1 : Int), rfl, rfl, ht, by omega, by omega, by omega, by have := ht.2.2; omega⟩
  case round =>
    rename_i hw0
    clear hw0 ht b5
    obtain ⟨q, r, rfl, rfl, T, hq0, hr0, hr, hqm⟩ := hrel
    by_cases hq : 4294967296 ≤ q
    · obtain ⟨p0, T', hq'⟩ := trial_next hY.out hu.out b3 T (Or.inl (by omega))
      clear T
      by_cases hb : 4294967296 ≤ r + y1
      · have D := trial_far hY.out b2 T' hq' (by omega)
        clear T'
        rw [show q.toNat - 1 = (q - 1).toNat by omega] at D
        obtain ⟨v, q2, t2, r2, kv, kq, kt, kr, V1, V2, T2, br2⟩ := second (qd := q - 1) hY.out hY2.out b2 hy1 b1 b4 (by omega) D
        clear D
        go_wp2_with fail
        clear kv kq kt kr
        go_loop [16, 18] (fun b a => ∃ q r : Int, a = .int .u64 q ∧ b = .int .u64 r ∧ Trial Y y1 v u0 q.toNat r.toNat ∧ 0 ≤ q ∧ 0 ≤ r ∧ r < 4294967296 ∧ q ≤ 4294967297) (fun _ a => (intOf a).toNat)
        case atStart => exact ⟨(q2 : Int), (r2 : Int), rfl, rfl, T2, by omega, by omega, by omega, by have := T2.2.2; omega⟩
        case round =>
          rename_i hw0
          clear hw0 T2 br2
          obtain ⟨q', r', rfl, rfl, T, hq0, hr0, hr, hqm⟩ := hrel
          by_cases hq : 4294967296 ≤ q'
          · obtain ⟨p0, T', hq'⟩ := trial_next hY.out V1.out b4 T (Or.inl (by omega))
            clear T
            by_cases hb : 4294967296 ≤ r' + y1
            · have D := trial_far hY.out b2 T' hq' (by omega)
              clear T'
              rw [show q'.toNat - 1 = (q' - 1).toNat by omega] at D
              obtain ⟨z, kz, hz⟩ := last (qd := q' - 1) hY2.out (by omega) D
              clear D
              go_wp2_with fail
              go_ret2
              exact ⟨_, congrArg Ending.returned (tup2 rfl (u64_eq (fin_eq hz.out V2.out hN.out))), rfl⟩
            · go_wp2_with fail
              go_round
              case rel => exact ⟨q' - 1, r' + y1, by go_num, by go_num, by rw [show (q' - 1).toNat = q'.toNat - 1 by omega, show (r' + y1).toNat = r'.toNat + y1 by omega]; exact T', by omega, by omega, by omega, by omega⟩
              case measure => simp [intOf]; omega
          · obtain ⟨m, hm⟩ : ∃ m : Int, m = ((q'.toNat * y0 : Nat) : Int) := ⟨_, rfl⟩
            have km := wrap_mul (mul_lt32 (show q'.toNat < 4294967296 by omega) b2)
            rw [← hm, show ((q'.toNat : Nat) : Int) = q' by omega] at km
            have hM := hide hm
            clear hm
            by_cases hT : 4294967296 * r' + u0 < m
            · obtain ⟨p0, T', hq'⟩ := trial_next hY.out V1.out b4 T (Or.inr (by have := hM.out; omega))
              clear T
              by_cases hb : 4294967296 ≤ r' + y1
              · have D := trial_far hY.out b2 T' hq' (by omega)
                clear T'
                rw [show q'.toNat - 1 = (q' - 1).toNat by omega] at D
                obtain ⟨z, kz, hz⟩ := last (qd := q' - 1) hY2.out (by omega) D
                clear D
                go_wp2_with fail
                go_ret2
                exact ⟨_, congrArg Ending.returned (tup2 rfl (u64_eq (fin_eq hz.out V2.out hN.out))), rfl⟩
              · go_wp2_with fail
                go_round
                case rel => exact ⟨q' - 1, r' + y1, by go_num, by go_num, by rw [show (q' - 1).toNat = q'.toNat - 1 by omega, show (r' + y1).toNat = r'.toNat + y1 by omega]; exact T', by omega, by omega, by omega, by omega⟩
                case measure => simp [intOf]; omega
            · have D := trial_done hY.out T (by have := hM.out; omega)
              clear T
              obtain ⟨z, kz, hz⟩ := last (qd := q') hY2.out (by omega) D
              clear D
              go_wp2_with fail
              go_ret2
              exact ⟨_, congrArg Ending.returned (tup2 rfl (u64_eq (fin_eq hz.out V2.out hN.out))), rfl⟩
      · go_wp2_with fail
        go_round
        case rel => exact ⟨q - 1, r + y1, by go_num, by go_num, by rw [show (q - 1).toNat = q.toNat - 1 by omega, show (r + y1).toNat = r.toNat + y1 by omega]; exact T', by omega, by omega, by omega, by omega⟩
        case measure => simp [intOf]; omega
    · obtain ⟨m, hm⟩ : ∃ m : Int, m = ((q.toNat * y0 : Nat) : Int) := ⟨_, rfl⟩
      have km := wrap_mul (mul_lt32 (show q.toNat < 4294967296 by omega) b2)
      rw [← hm, show ((q.toNat : Nat) : Int) = q by omega] at km
      have hM := hide hm
      clear hm
      by_cases hT : 4294967296 * r + u1 < m
      · obtain ⟨p0, T', hq'⟩ := trial_next hY.out hu.out b3 T (Or.inr (by have := hM.out; omega))
        clear T
        by_cases hb : 4294967296 ≤ r + y1
        · have D := trial_far hY.out b2 T' hq' (by omega)
          clear T'
          rw [show q.toNat - 1 = (q - 1).toNat by omega] at D
          obtain ⟨v, q2, t2, r2, kv, kq, kt, kr, V1, V2, T2, br2⟩ := second (qd := q - 1) hY.out hY2.out b2 hy1 b1 b4 (by omega) D
          clear D
          go_wp2_with fail
          clear kv kq kt kr
          go_loop [16, 18] (fun b a => ∃ q r : Int, a = .int .u64 q ∧ b = .int .u64 r ∧ Trial Y y1 v u0 q.toNat r.toNat ∧ 0 ≤ q ∧ 0 ≤ r ∧ r < 4294967296 ∧ q ≤ 4294967297) (fun _ a => (intOf a).toNat)
          case atStart => exact ⟨(q2 : Int), (r2 : Int), rfl, rfl, T2, by omega, by omega, by omega, by have := T2.2.2; omega⟩
          case round =>
            rename_i hw0
            clear hw0 T2 br2
            obtain ⟨q', r', rfl, rfl, T, hq0, hr0, hr, hqm⟩ := hrel
            by_cases hq : 4294967296 ≤ q'
            · obtain ⟨p0, T', hq'⟩ := trial_next hY.out V1.out b4 T (Or.inl (by omega))
              clear T
              by_cases hb : 4294967296 ≤ r' + y1
              · have D := trial_far hY.out b2 T' hq' (by omega)
                clear T'
                rw [show q'.toNat - 1 = (q' - 1).toNat by omega] at D
                obtain ⟨z, kz, hz⟩ := last (qd := q' - 1) hY2.out (by omega) D
                clear D
                go_wp2_with fail
                go_ret2
                exact ⟨_, congrArg Ending.returned (tup2 rfl (u64_eq (fin_eq hz.out V2.out hN.out))), rfl⟩
              · go_wp2_with fail
                go_round
                case rel => exact ⟨q' - 1, r' + y1, by go_num, by go_num, by rw [show (q' - 1).toNat = q'.toNat - 1 by omega, show (r' + y1).toNat = r'.toNat + y1 by omega]; exact T', by omega, by omega, by omega, by omega⟩
                case measure => simp [intOf]; omega
            · obtain ⟨m, hm⟩ : ∃ m : Int, m = ((q'.toNat * y0 : Nat) : Int) := ⟨_, rfl⟩
              have km := wrap_mul (mul_lt32 (show q'.toNat < 4294967296 by omega) b2)
              rw [← hm, show ((q'.toNat : Nat) : Int) = q' by omega] at km
              have hM := hide hm
              clear hm
              by_cases hT : 4294967296 * r' + u0 < m
              · obtain ⟨p0, T', hq'⟩ := trial_next hY.out V1.out b4 T (Or.inr (by have := hM.out; omega))
                clear T
                by_cases hb : 4294967296 ≤ r' + y1
                · have D := trial_far hY.out b2 T' hq' (by omega)
                  clear T'
                  rw [show q'.toNat - 1 = (q' - 1).toNat by omega] at D
                  obtain ⟨z, kz, hz⟩ := last (qd := q' - 1) hY2.out (by omega) D
                  clear D
                  go_wp2_with fail
                  go_ret2
                  exact ⟨_, congrArg Ending.returned (tup2 rfl (u64_eq (fin_eq hz.out V2.out hN.out))), rfl⟩
                · go_wp2_with fail
                  go_round
                  case rel => exact ⟨q' - 1, r' + y1, by go_num, by go_num, by rw [show (q' - 1).toNat = q'.toNat - 1 by omega, show (r' + y1).toNat = r'.toNat + y1 by omega]; exact T', by omega, by omega, by omega, by omega⟩
                  case measure => simp [intOf]; omega
              · have D := trial_done hY.out T (by have := hM.out; omega)
                clear T
                obtain ⟨z, kz, hz⟩ := last (qd := q') hY2.out (by omega) D
                clear D
                go_wp2_with fail
                go_ret2
                exact ⟨_, congrArg Ending.returned (tup2 rfl (u64_eq (fin_eq hz.out V2.out hN.out))), rfl⟩
        · go_wp2_with fail
          go_round
          case rel => exact ⟨q - 1, r + y1, by go_num, by go_num, by rw [show (q - 1).toNat = q.toNat - 1 by omega, show (r + y1).toNat = r.toNat + y1 by omega]; exact T', by omega, by omega, by omega, by omega⟩
          case measure => simp [intOf]; omega
      · have D := trial_done hY.out T (by have := hM.out; omega)
        clear T
        obtain ⟨v, q2, t2, r2, kv, kq, kt, kr, V1, V2, T2, br2⟩ := second (qd := q) hY.out hY2.out b2 hy1 b1 b4 (by omega) D
        clear D
        go_wp2_with fail
        clear kv kq kt kr
        go_loop [16, 18] (fun b a => ∃ q r : Int, a = .int .u64 q ∧ b = .int .u64 r ∧ Trial Y y1 v u0 q.toNat r.toNat ∧ 0 ≤ q ∧ 0 ≤ r ∧ r < 4294967296 ∧ q ≤ 4294967297) (fun _ a => (intOf a).toNat)
        case atStart => exact ⟨(q2 : Int), (r2 : Int), rfl, rfl, T2, by omega, by omega, by omega, by have := T2.2.2; omega⟩
        case round =>
          rename_i hw0
          clear hw0 T2 br2
          obtain ⟨q', r', rfl, rfl, T, hq0, hr0, hr, hqm⟩ := hrel
          by_cases hq : 4294967296 ≤ q'
          · obtain ⟨p0, T', hq'⟩ := trial_next hY.out V1.out b4 T (Or.inl (by omega))
            clear T
            by_cases hb : 4294967296 ≤ r' + y1
            · have D := trial_far hY.out b2 T' hq' (by omega)
              clear T'
              rw [show q'.toNat - 1 = (q' - 1).toNat by omega] at D
              obtain ⟨z, kz, hz⟩ := last (qd := q' - 1) hY2.out (by omega) D
              clear D
              go_wp2_with fail
              go_ret2
              exact ⟨_, congrArg Ending.returned (tup2 rfl (u64_eq (fin_eq hz.out V2.out hN.out))), rfl⟩
            · go_wp2_with fail
              go_round
              case rel => exact ⟨q' - 1, r' + y1, by go_num, by go_num, by rw [show (q' - 1).toNat = q'.toNat - 1 by omega, show (r' + y1).toNat = r'.toNat + y1 by omega]; exact T', by omega, by omega, by omega, by omega⟩
              case measure => simp [intOf]; omega
          · obtain ⟨m, hm⟩ : ∃ m : Int, m = ((q'.toNat * y0 : Nat) : Int) := ⟨_, rfl⟩
            have km := wrap_mul (mul_lt32 (show q'.toNat < 4294967296 by omega) b2)
            rw [← hm, show ((q'.toNat : Nat) : Int) = q' by omega] at km
            have hM := hide hm
            clear hm
            by_cases hT : 4294967296 * r' + u0 < m
            · obtain ⟨p0, T', hq'⟩ := trial_next hY.out V1.out b4 T (Or.inr (by have := hM.out; omega))
              clear T
              by_cases hb : 4294967296 ≤ r' + y1
              · have D := trial_far hY.out b2 T' hq' (by omega)
                clear T'
                rw [show q'.toNat - 1 = (q' - 1).toNat by omega] at D
                obtain ⟨z, kz, hz⟩ := last (qd := q' - 1) hY2.out (by omega) D
                clear D
                go_wp2_with fail
                go_ret2
                exact ⟨_, congrArg Ending.returned (tup2 rfl (u64_eq (fin_eq hz.out V2.out hN.out))), rfl⟩
              · go_wp2_with fail
                go_round
                case rel => exact ⟨q' - 1, r' + y1, by go_num, by go_num, by rw [show (q' - 1).toNat = q'.toNat - 1 by omega, show (r' + y1).toNat = r'.toNat + y1 by omega]; exact T', by omega, by omega, by omega, by omega⟩
                case measure => simp [intOf]; omega
            · have D := trial_done hY.out T (by have := hM.out; omega)
              clear T
              obtain ⟨z, kz, hz⟩ := last (qd := q') hY2.out (by omega) D
              clear D
              go_wp2_with fail
              go_ret2
              exact ⟨_, congrArg Ending.returned (tup2 rfl (u64_eq (fin_eq hz.out V2.out hN.out))), rfl⟩
end Go.Proofs.YtfmhpnendcikoaaGreat
namespace Go.Proofs.YtfmhpnendcikoaaGreat
open Go.RowKit

theorem w_or_upper {h l s : Nat} (hs : s ≤ 63) (hl : l < 18446744073709551616) (hb : upper h l s < 18446744073709551616) :
    bits .or .u64 ((h * 2 ^ s : Nat) : Int) ((l : Int) / 2 ^ (64 - s)) = ((upper h l s : Nat) : Int) := by
  have a : l / 2 ^ (64 - s) < 2 ^ s := by
    apply (Nat.div_lt_iff_lt_mul (pow_pos _)).2
    rw [← Nat.pow_add, show s + (64 - s) = 64 by omega]
    exact hl
  have b := hb
  unfold upper at *
  rw [cast_div, u64_or_nat _ _ (Nat.lt_of_le_of_lt (Nat.le_add_right _ _) b) (Nat.lt_of_le_of_lt (Nat.le_add_left _ _) b), or_add ⟨_, Nat.mul_comm _ _⟩ a]

theorem div_any {h l y : Nat} (w : World) (h0 : 0 < h) (h1 : h < y) (h2 : W64lt y) (h3 : W64lt l) :
    Calls Tryz.prog 72 #[.int .u64 h, .int .u64 l, .int .u64 y] w (Divides (h * 18446744073709551616 + l) y w) := by
  unfold W64lt at h2 h3
  have ⟨ls, la, lb⟩ := lead_spec (show 0 < y by omega) h2
  have hu := upper_lt ls h3 h1
  have hub := Nat.lt_trans hu lb
  have hh : h * 2 ^ lead y < 18446744073709551616 := Nat.lt_trans ((Nat.mul_lt_mul_right (pow_pos _)).2 h1) lb
  have e2 : y * 2 ^ lead y = y * 2 ^ lead y / 4294967296 * 4294967296 + y * 2 ^ lead y % 4294967296 := by omega
  have T := trial_first (u := upper h l (lead y)) (u1 := l * 2 ^ lead y % 18446744073709551616 / 4294967296) e2 (by omega) (by omega) hu (by omega)
  have eu := upper_eq (h := h) (l := l) ls
  have er := rest_down (h * 18446744073709551616 + l) y (lead y)
  refine div_core h l y (h * 18446744073709551616 + l) (y * 2 ^ lead y) (y * 2 ^ lead y / 4294967296) (y * 2 ^ lead y % 4294967296) (h * 2 ^ lead y) (upper h l (lead y)) (l * 2 ^ lead y % 18446744073709551616)
    (l * 2 ^ lead y % 18446744073709551616 / 4294967296) (l * 2 ^ lead y % 18446744073709551616 % 4294967296) (upper h l (lead y) / (y * 2 ^ lead y / 4294967296)) (upper h l (lead y) / (y * 2 ^ lead y / 4294967296) * (y * 2 ^ lead y / 4294967296)) _ w
    (bne0 (by omega)) (bne0 h0) h1 h2 (by omega) (by omega) ?_ ?_ ?_ ?_ ?_ ?_ ?_ ?_ ?_ ?_ ?_ e2 hu ?_ T (by omega) (by omega) (by omega) (by omega) (by omega) lb ?_
  · rw [cast_mul, wrap_nat, Nat.mod_eq_of_lt lb]
  · rw [Int.natCast_ediv]; rfl
  · rw [and_low32 _ (by omega) (by omega), Int.natCast_emod]; rfl
  · rw [cast_mul, wrap_nat, Nat.mod_eq_of_lt hh]
  · exact w_or_upper ls h3 hub
  · rw [cast_mul, wrap_nat]
  · rw [Int.natCast_ediv]; rfl
  · rw [and_low32 _ (by omega) (by omega), Int.natCast_emod]; rfl
  · exact wrap_quo _ _ hub
  · exact wrap_mul (Nat.lt_of_le_of_lt (trial_rest T) hub)
  · exact wrap_diff (trial_rest T) hub
  · show _ / _ = _
    rw [Nat.div_add_mod', eu, er]
  · have e := Nat.div_add_mod (upper h l (lead y)) (y * 2 ^ lead y / 4294967296)
    have r := Nat.mod_lt (upper h l (lead y)) (show 0 < y * 2 ^ lead y / 4294967296 by omega)
    rw [Nat.mul_comm] at e
    omega

set_option maxHeartbeats 400000 in
theorem div_small {l y : Nat} (w : World) (h0 : 0 < y) :
    Calls Tryz.prog 72 #[.int .u64 0, .int .u64 l, .int .u64 y] w fun e w' => ∃ (q : Int) (n : Nat), e = .returned (.tuple #[.int .u64 q, .int .u64 (l % y : Nat)]) ∧ w' = w.drewN n := by
  have hy := bne0 h0
  have hy2 : ¬ ((y : Int) ≤ 0) := by omega
  have hy3 : (0 : Int) < y := by omega
  go_enter Tryz.func72, Tryz.ntmps72
  go_wp2_with fail
  go_quiet (fail)
  go_wp2
  go_ret2
  exact ⟨_, _, congrArg Ending.returned (tup2 rfl (u64_eq (Int.natCast_emod l y).symm)), rfl⟩

def Gets (v : Value) (w : World) (e : Ending) (w' : World) : Prop := e = .returned v ∧ ∃ n, w' = w.drewN n
theorem div_small' {l y : Nat} (w : World) (h0 : 0 < y) :
    Calls Tryz.prog 72 #[.int .u64 0, .int .u64 l, .int .u64 y] w fun e w' => ∃ q : Int, Gets (.tuple #[.int .u64 q, .int .u64 (l % y : Nat)]) w e w' :=
  (div_small w h0).mono fun _ _ ⟨q, n, he, hw⟩ => ⟨q, he, n, hw⟩
theorem rem_eq (h l y : Nat) : (h % y * 18446744073709551616 + l) % y = (h * 18446744073709551616 + l) % y := by
  rw [Nat.add_mod, Nat.mod_mul_mod, ← Nat.add_mod]

set_option maxHeartbeats 400000 in
theorem rem_any {h l y : Nat} (w : World) (h0 : 0 < y) (h2 : W64lt y) (h3 : W64lt l) :
    Calls Tryz.prog 47 #[.int .u64 h, .int .u64 l, .int .u64 y] w (Gets (.int .u64 ((h * 18446744073709551616 + l) % y : Nat)) w) := by
  have hy := bne0 h0
  have hy3 : (0 : Int) < y := by omega
  have hr := rem_eq h l y
  have hm : (h : Int) % (y : Int) = ((h % y : Nat) : Int) := (Int.natCast_emod h y).symm
  have hl := Nat.mod_lt h h0
  generalize h % y = m at *
  have R := hide hr
  clear hr
  rcases Nat.eq_zero_or_pos m with e | e
  · subst e
    have R' : Hid (l % y = (h * 18446744073709551616 + l) % y) := by have := R.out; rw [Nat.zero_mul, Nat.zero_add] at this; exact this
    clear R
    go_enter Tryz.func47, Tryz.ntmps47
    go_wp2_with fail
    refine (div_small' _ h0).mono ?_
    rintro e w' ⟨q, rfl, n, rfl⟩
    go_wp2_with fail
    go_ret
    exact ⟨congrArg Ending.returned (u64_eq (by rw [← R'.out]; simp)), n, rfl⟩
  · go_enter Tryz.func47, Tryz.ntmps47
    go_wp2_with fail
    refine (div_any _ e hl h2 h3).mono ?_
    rintro e w' ⟨q, rfl, rfl⟩
    go_wp2_with fail
    go_ret
    exact ⟨congrArg Ending.returned (u64_eq (by rw [← R.out]; simp)), 0, rfl⟩

def modS (a b : Nat) : Nat := if b = 0 then 0 else a % b
def modO (b : Nat) : Bool := decide (b ≠ 0)
theorem modS_lt {a b : Nat} (h : b ≠ 0) : modS a b < b := by unfold modS; rw [if_neg h]; exact Nat.mod_lt _ (by omega)
theorem fits_modS {a b : Nat} (hb : Fits b) : Fits (modS a b) := by
  unfold modS; split
  · exact fits_zero
  · rename_i h; exact Nat.lt_trans (Nat.mod_lt _ (by omega)) hb

theorem gets_below {v : Value} {w : World} {e : Ending} {w' : World} (h : Gets v w e w') : Gives v w e w' := by
  obtain ⟨rfl, n, rfl⟩ := h
  exact ⟨rfl, rfl, rfl, rfl, Nat.le_refl _, fun _ _ => rfl⟩
end Go.Proofs.YtfmhpnendcikoaaGreat
