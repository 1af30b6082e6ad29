/-
  Contract of Div64 at a high word that is not 0: the rest is the rest of the two words' number; the world stays as it is. Conditions: the divisor is greater than the high word; words of 64 bits; the steps before the first loop are as the equations among the premises say (shown to be so in the next text).
-/
import Derived.Test.YtfmhpnendcikoaaAddrL
import Derived.Test.YtfmhpnendcikoaaAddrK
namespace Go.Proofs.Ytfmhpnendcikoaa
open Go.RowKit
def W64lt (x : Nat) : Prop := x < 18446744073709551616
theorem bne0 {x : Nat} (h : 0 < x) : ((x : Int) == 0) = false := by simp; omega
def Divides (N y : Nat) (w : World) (e : Ending) (w' : World) : Prop := ∃ q : Int, e = .returned (.tuple #[.int .u64 q, .int .u64 (N % y : Nat)]) ∧ w = w'

theorem wrap_mul {a b : Nat} (h : a * b < 18446744073709551616) : IntKind.u64.wrap ((a : Int) * (b : Int)) = ((a * b : Nat) : Int) := by
  rw [← Int.natCast_mul, wrap_nat, Nat.mod_eq_of_lt h]
theorem wrap_diff {a b : Nat} (h : b ≤ a) (ha : a < 18446744073709551616) : IntKind.u64.wrap ((a : Int) - (b : Int)) = ((a - b : Nat) : Int) := by
  rw [show (a : Int) - (b : Int) = ((a - b : Nat) : Int) by omega, wrap_nat, Nat.mod_eq_of_lt (by omega)]
theorem wrap_quo (a b : Nat) (ha : a < 18446744073709551616) : IntKind.u64.wrap ((a : Int) / (b : Int)) = ((a / b : Nat) : Int) := by
  rw [← Int.natCast_ediv, wrap_nat, Nat.mod_eq_of_lt (Nat.lt_of_le_of_lt (Nat.div_le_self _ _) ha)]
theorem mul_lt32 {q y0 : Nat} (h : q < 4294967296) (h0 : y0 < 4294967296) : q * y0 < 18446744073709551616 := by
  have := Nat.mul_le_mul (show q ≤ 4294967295 by omega) (show y0 ≤ 4294967295 by omega)
  omega

theorem second {Y y1 y0 u u1 u0 : Nat} {qd : Int} (hY : Y = y1 * 4294967296 + y0) (hY2 : Y < 18446744073709551616) (b2 : y0 < 4294967296) (hy1 : 2147483648 ≤ y1) (b1 : y1 < 4294967296) (b4 : u0 < 4294967296)
    (h0 : 0 ≤ qd) (D : Digit Y u u1 qd.toNat) : ∃ v q2 t2 r2 : Nat,
    IntKind.u64.wrap (IntKind.u64.wrap (IntKind.u64.wrap ((u : Int) * 4294967296) + (u1 : Int)) - IntKind.u64.wrap (qd * (Y : Int))) = (v : Int) ∧
    IntKind.u64.wrap ((v : Int) / (y1 : Int)) = (q2 : Int) ∧ IntKind.u64.wrap ((q2 : Int) * (y1 : Int)) = (t2 : Int) ∧ IntKind.u64.wrap ((v : Int) - (t2 : Int)) = (r2 : Int) ∧
    Hid (v < Y) ∧ Hid (v = (u * 4294967296 + u1) % Y) ∧ Trial Y y1 v u0 q2 r2 ∧ r2 < 4294967296 := by
  obtain ⟨n, rfl⟩ := Int.eq_ofNat_of_zero_le h0
  rw [Int.toNat_natCast] at D
  have ⟨d1, d2⟩ := digit_rest D
  have hT := trial_first hY b2 hy1 d1 b4
  refine ⟨u * 4294967296 + u1 - n * Y, _, (u * 4294967296 + u1 - n * Y) / y1 * y1, _, ?_, wrap_quo _ _ (by omega), ?_, ?_, d1, d2, hT, ?_⟩
  · have e : (n : Int) * (Y : Int) = ((n * Y : Nat) : Int) := by rw [Int.natCast_mul]
    have d3 := D.1
    rw [e]
    simp only [IntKind.wrap_u64]
    generalize n * Y = M at *
    omega
  · exact wrap_mul (Nat.lt_of_le_of_lt (trial_rest hT) (by omega))
  · exact wrap_diff (trial_rest hT) (by omega)
  · have e := Nat.div_add_mod (u * 4294967296 + u1 - n * Y) y1
    have r := Nat.mod_lt (u * 4294967296 + u1 - n * Y) (show 0 < y1 by omega)
    rw [Nat.mul_comm] at e
    omega
theorem last {Y v u0 : Nat} {qd : Int} (hY2 : Y < 18446744073709551616) (h0 : 0 ≤ qd) (D : Digit Y v u0 qd.toNat) : ∃ z : Nat,
    IntKind.u64.wrap (IntKind.u64.wrap (IntKind.u64.wrap ((v : Int) * 4294967296) + (u0 : Int)) - IntKind.u64.wrap (qd * (Y : Int))) = (z : Int) ∧ Hid (z = (v * 4294967296 + u0) % Y) := by
  obtain ⟨n, rfl⟩ := Int.eq_ofNat_of_zero_le h0
  rw [Int.toNat_natCast] at D
  have ⟨d1, d2⟩ := digit_rest D
  refine ⟨v * 4294967296 + u0 - n * Y, ?_, d2⟩
  have e : (n : Int) * (Y : Int) = ((n * Y : Nat) : Int) := by rw [Int.natCast_mul]
  have d3 := D.1
  rw [e]
  simp only [IntKind.wrap_u64]
  generalize n * Y = M at *
  omega
theorem fin_eq {u u1 u0 v z Y s : Nat} {R : Nat} (hz : z = (v * 4294967296 + u0) % Y) (hv : v = (u * 4294967296 + u1) % Y) (hN : (u * 18446744073709551616 + (u1 * 4294967296 + u0)) % Y / 2 ^ s = R) :
    ((z : Nat) : Int) / 2 ^ s = ((R : Nat) : Int) := by
  rw [cast_div, hz, hv, two_rests, hN]

set_option maxRecDepth 100000 in
set_option maxHeartbeats 1000000 in
theorem div_core (h l y N Y y1 y0 H u L u1 u0 q1 t1 r1 : Nat) (w : World) (hy : ((y : Int) == 0) = false) (hh : ((h : Int) == 0) = false) (h1 : h < y) (h2 : W64lt y)
    (hs0 : (0 : Int) ≤ (lead y : Nat)) (hs1 : ((lead y : Nat) : Int) ≤ 63)
    (k1 : IntKind.u64.wrap ((y : Int) * 2 ^ lead y) = (Y : Int)) (k2 : (Y : Int) / 4294967296 = (y1 : Int)) (k3 : bits .and .u64 (Y : Int) 4294967295 = (y0 : Int))
    (k4 : IntKind.u64.wrap ((h : Int) * 2 ^ lead y) = (H : Int)) (k5 : bits .or .u64 (H : Int) ((l : Int) / 2 ^ (64 - lead y)) = (u : Int))
    (k6 : IntKind.u64.wrap ((l : Int) * 2 ^ lead y) = (L : Int)) (k7 : (L : Int) / 4294967296 = (u1 : Int)) (k8 : bits .and .u64 (L : Int) 4294967295 = (u0 : Int))
    (k9 : IntKind.u64.wrap ((u : Int) / (y1 : Int)) = (q1 : Int)) (k10 : IntKind.u64.wrap ((q1 : Int) * (y1 : Int)) = (t1 : Int)) (k11 : IntKind.u64.wrap ((u : Int) - (t1 : Int)) = (r1 : Int))
    (hY : Hid (Y = y1 * 4294967296 + y0)) (hu : Hid (u < Y)) (hN : Hid ((u * 18446744073709551616 + (u1 * 4294967296 + u0)) % Y / 2 ^ lead y = N % y))
    (ht : Trial Y y1 u u1 q1 r1)
    (hy1 : 2147483648 ≤ y1) (b1 : y1 < 4294967296)
    (b2 : y0 < 4294967296) (b3 : u1 < 4294967296) (b4 : u0 < 4294967296) (hY2 : Hid (Y < 18446744073709551616)) (b5 : r1 < 4294967296) :
    Calls Try.prog 69 #[.int .u64 h, .int .u64 l, .int .u64 y] w (Divides N y w) := by
  go_enter Try.func69, Try.ntmps69
  go_wp2_with fail
  refine (lead_any y _ h2).mono ?_
  rintro e w' ⟨rfl, rfl⟩
  go_wp2_with fail
  clear k1 k2 k3 k4 k5 k6 k7 k8 k9 k10 k11
  go_loop [15, 16] (fun a b => ∃ q r : Int, a = .int .u64 q ∧ b = .int .u64 r ∧ Trial Y y1 u u1 q.toNat r.toNat ∧ 0 ≤ q ∧ 0 ≤ r ∧ r < 4294967296 ∧ q ≤ 4294967297) (fun a _ => (intOf a).toNat)
  case atStart => exact ⟨(q1 : Int), (r1 : Int), rfl, rfl, ht, by omega, by omega, by omega, by have := ht.2.2; omega⟩
  case round =>
    rename_i hw0
    clear hw0 ht b5
    obtain ⟨q, r, rfl, rfl, T, hq0, hr0, hr, hqm⟩ := hrel
    by_cases hq : 4294967296 ≤ q
    · obtain ⟨p0, T', hq'⟩ := trial_next hY.out hu.out b3 T (Or.inl (by omega))
      clear T
      by_cases hb : 4294967296 ≤ r + y1
      · have D := trial_far hY.out b2 T' hq' (by omega)
        clear T'
        rw [show q.toNat - 1 = (q - 1).toNat by omega] at D
        obtain ⟨v, q2, t2, r2, kv, kq, kt, kr, V1, V2, T2, br2⟩ := second (qd := q - 1) hY.out hY2.out b2 hy1 b1 b4 (by omega) D
        clear D
        go_wp2_with fail
        clear kv kq kt kr
        go_loop [16, 18] (fun b a => ∃ q r : Int, a = .int .u64 q ∧ b = .int .u64 r ∧ Trial Y y1 v u0 q.toNat r.toNat ∧ 0 ≤ q ∧ 0 ≤ r ∧ r < 4294967296 ∧ q ≤ 4294967297) (fun _ a => (intOf a).toNat)
        case atStart => exact ⟨(q2 : Int), (r2 : Int), rfl, rfl, T2, by omega, by omega, by omega, by have := T2.2.2; omega⟩
        case round =>
          rename_i hw0
          clear hw0 T2 br2
          obtain ⟨q', r', rfl, rfl, T, hq0, hr0, hr, hqm⟩ := hrel
          by_cases hq : 4294967296 ≤ q'
          · obtain ⟨p0, T', hq'⟩ := trial_next hY.out V1.out b4 T (Or.inl (by omega))
            clear T
            by_cases hb : 4294967296 ≤ r' + y1
            · have D := trial_far hY.out b2 T' hq' (by omega)
              clear T'
              rw [show q'.toNat - 1 = (q' - 1).toNat by omega] at D
              obtain ⟨z, kz, hz⟩ := last (qd := q' - 1) hY2.out (by omega) D
              clear D
              go_wp2_with fail
              go_ret2
              exact ⟨_, congrArg Ending.returned (tup2 rfl (u64_eq (fin_eq hz.out V2.out hN.out))), rfl⟩
            · go_wp2_with fail
              go_round
              case rel => exact ⟨q' - 1, r' + y1, by go_num, by go_num, by rw [show (q' - 1).toNat = q'.toNat - 1 by omega, show (r' + y1).toNat = r'.toNat + y1 by omega]; exact T', by omega, by omega, by omega, by omega⟩
              case measure => simp [intOf]; omega
          · obtain ⟨m, hm⟩ : ∃ m : Int, m = ((q'.toNat * y0 : Nat) : Int) := ⟨_, rfl⟩
            have km := wrap_mul (mul_lt32 (show q'.toNat < 4294967296 by omega) b2)
            rw [← hm, show ((q'.toNat : Nat) : Int) = q' by omega] at km
            have hM := hide hm
            clear hm
            by_cases hT : 4294967296 * r' + u0 < m
            · obtain ⟨p0, T', hq'⟩ := trial_next hY.out V1.out b4 T (Or.inr (by have := hM.out; omega))
              clear T
              by_cases hb : 4294967296 ≤ r' + y1
              · have D := trial_far hY.out b2 T' hq' (by omega)
                clear T'
                rw [show q'.toNat - 1 = (q' - 1).toNat by omega] at D
                obtain ⟨z, kz, hz⟩ := last (qd := q' - 1) hY2.out (by omega) D
                clear D
                go_wp2_with fail
                go_ret2
                exact ⟨_, congrArg Ending.returned (tup2 rfl (u64_eq (fin_eq hz.out V2.out hN.out))), rfl⟩
              · go_wp2_with fail
                go_round
                case rel => exact ⟨q' - 1, r' + y1, by go_num, by go_num, by rw [show (q' - 1).toNat = q'.toNat - 1 by omega, show (r' + y1).toNat = r'.toNat + y1 by omega]; exact T', by omega, by omega, by omega, by omega⟩
                case measure => simp [intOf]; omega
            · have D := trial_done hY.out T (by have := hM.out; omega)
              clear T
              obtain ⟨z, kz, hz⟩ := last (qd := q') hY2.out (by omega) D
              clear D
              go_wp2_with fail
              go_ret2
              exact ⟨_, congrArg Ending.returned (tup2 rfl (u64_eq (fin_eq hz.out V2.out hN.out))), rfl⟩
      · go_wp2_with fail
        go_round
        case rel => exact ⟨q - 1, r + y1, by go_num, by go_num, by rw [show (q - 1).toNat = q.toNat - 1 by omega, show (r + y1).toNat = r.toNat + y1 by omega]; exact T', by omega, by omega, by omega, by omega⟩
        case measure => simp [intOf]; omega
    · obtain ⟨m, hm⟩ : ∃ m : Int, m = ((q.toNat * y0 : Nat) : Int) := ⟨_, rfl⟩
      have km := wrap_mul (mul_lt32 (show q.toNat < 4294967296 by omega) b2)
      rw [← hm, show ((q.toNat : Nat) : Int) = q by omega] at km
      have hM := hide hm
      clear hm
      by_cases hT : 4294967296 * r + u1 < m
      · obtain ⟨p0, T', hq'⟩ := trial_next hY.out hu.out b3 T (Or.inr (by have := hM.out; omega))
        clear T
        by_cases hb : 4294967296 ≤ r + y1
        · have D := trial_far hY.out b2 T' hq' (by omega)
          clear T'
          rw [show q.toNat - 1 = (q - 1).toNat by omega] at D
          obtain ⟨v, q2, t2, r2, kv, kq, kt, kr, V1, V2, T2, br2⟩ := second (qd := q - 1) hY.out hY2.out b2 hy1 b1 b4 (by omega) D
          clear D
          go_wp2_with fail
          clear kv kq kt kr
          go_loop [16, 18] (fun b a => ∃ q r : Int, a = .int .u64 q ∧ b = .int .u64 r ∧ Trial Y y1 v u0 q.toNat r.toNat ∧ 0 ≤ q ∧ 0 ≤ r ∧ r < 4294967296 ∧ q ≤ 4294967297) (fun _ a => (intOf a).toNat)
          case atStart => exact ⟨(q2 : Int), (r2 : Int), rfl, rfl, T2, by omega, by omega, by omega, by have := T2.2.2; omega⟩
          case round =>
            rename_i hw0
            clear hw0 T2 br2
            obtain ⟨q', r', rfl, rfl, T, hq0, hr0, hr, hqm⟩ := hrel
            by_cases hq : 4294967296 ≤ q'
            · obtain ⟨p0, T', hq'⟩ := trial_next hY.out V1.out b4 T (Or.inl (by omega))
              clear T
              by_cases hb : 4294967296 ≤ r' + y1
              · have D := trial_far hY.out b2 T' hq' (by omega)
                clear T'
                rw [show q'.toNat - 1 = (q' - 1).toNat by omega] at D
                obtain ⟨z, kz, hz⟩ := last (qd := q' - 1) hY2.out (by omega) D
                clear D
                go_wp2_with fail
                go_ret2
                exact ⟨_, congrArg Ending.returned (tup2 rfl (u64_eq (fin_eq hz.out V2.out hN.out))), rfl⟩
              · go_wp2_with fail
                go_round
                case rel => exact ⟨q' - 1, r' + y1, by go_num, by go_num, by rw [show (q' - 1).toNat = q'.toNat - 1 by omega, show (r' + y1).toNat = r'.toNat + y1 by omega]; exact T', by omega, by omega, by omega, by omega⟩
                case measure => simp [intOf]; omega
            · obtain ⟨m, hm⟩ : ∃ m : Int, m = ((q'.toNat * y0 : Nat) : Int) := ⟨_, rfl⟩
              have km := wrap_mul (mul_lt32 (show q'.toNat < 4294967296 by omega) b2)
              rw [← hm, show ((q'.toNat : Nat) : Int) = q' by omega] at km
              have hM := hide hm
              clear hm
              by_cases hT : 4294967296 * r' + u0 < m
              · obtain ⟨p0, T', hq'⟩ := trial_next hY.out V1.out b4 T (Or.inr (by have := hM.out; omega))
                clear T
                by_cases hb : 4294967296 ≤ r' + y1
                · have D := trial_far hY.out b2 T' hq' (by omega)
                  clear T'
                  rw [show q'.toNat - 1 = (q' - 1).toNat by omega] at D
                  obtain ⟨z, kz, hz⟩ := last (qd := q' - 1) hY2.out (by omega) D
                  clear D
                  go_wp2_with fail
                  go_ret2
                  exact ⟨_, congrArg Ending.returned (tup2 rfl (u64_eq (fin_eq hz.out V2.out hN.out))), rfl⟩
                · go_wp2_with fail
                  go_round
                  case rel => exact ⟨q' - 1, r' + y1, by go_num, by go_num, by rw [show (q' - 1).toNat = q'.toNat - 1 by omega, show (r' + y1).toNat = r'.toNat + y1 by omega]; exact T', by omega, by omega, by omega, by omega⟩
                  case measure => simp [intOf]; omega
              · have D := trial_done hY.out T (by have := hM.out; omega)
                clear T
                obtain ⟨z, kz, hz⟩ := last (qd := q') hY2.out (by omega) D
                clear D
                go_wp2_with fail
                go_ret2
                exact ⟨_, congrArg Ending.returned (tup2 rfl (u64_eq (fin_eq hz.out V2.out hN.out))), rfl⟩
        · go_wp2_with fail
          go_round
          case rel => exact ⟨q - 1, r + y1, by go_num, by go_num, by rw [show (q - 1).toNat = q.toNat - 1 by omega, show (r + y1).toNat = r.toNat + y1 by omega]; exact T', by omega, by omega, by omega, by omega⟩
          case measure => simp [intOf]; omega
      · have D := trial_done hY.out T (by have := hM.out; omega)
        clear T
        obtain ⟨v, q2, t2, r2, kv, kq, kt, kr, V1, V2, T2, br2⟩ := second (qd := q) hY.out hY2.out b2 hy1 b1 b4 (by omega) D
        clear D
        go_wp2_with fail
        clear kv kq kt kr
        go_loop [16, 18] (fun b a => ∃ q r : Int, a = .int .u64 q ∧ b = .int .u64 r ∧ Trial Y y1 v u0 q.toNat r.toNat ∧ 0 ≤ q ∧ 0 ≤ r ∧ r < 4294967296 ∧ q ≤ 4294967297) (fun _ a => (intOf a).toNat)
        case atStart => exact ⟨(q2 : Int), (r2 : Int), rfl, rfl, T2, by omega, by omega, by omega, by have := T2.2.2; omega⟩
        case round =>
          rename_i hw0
          clear hw0 T2 br2
          obtain ⟨q', r', rfl, rfl, T, hq0, hr0, hr, hqm⟩ := hrel
          by_cases hq : 4294967296 ≤ q'
          · obtain ⟨p0, T', hq'⟩ := trial_next hY.out V1.out b4 T (Or.inl (by omega))
            clear T
            by_cases hb : 4294967296 ≤ r' + y1
            · have D := trial_far hY.out b2 T' hq' (by omega)
              clear T'
              rw [show q'.toNat - 1 = (q' - 1).toNat by omega] at D
              obtain ⟨z, kz, hz⟩ := last (qd := q' - 1) hY2.out (by omega) D
              clear D
              go_wp2_with fail
              go_ret2
              exact ⟨_, congrArg Ending.returned (tup2 rfl (u64_eq (fin_eq hz.out V2.out hN.out))), rfl⟩
            · go_wp2_with fail
              go_round
              case rel => exact ⟨q' - 1, r' + y1, by go_num, by go_num, by rw [show (q' - 1).toNat = q'.toNat - 1 by omega, show (r' + y1).toNat = r'.toNat + y1 by omega]; exact T', by omega, by omega, by omega, by omega⟩
              case measure => simp [intOf]; omega
          · obtain ⟨m, hm⟩ : ∃ m : Int, m = ((q'.toNat * y0 : Nat) : Int) := ⟨_, rfl⟩
            have km := wrap_mul (mul_lt32 (show q'.toNat < 4294967296 by omega) b2)
            rw [← hm, show ((q'.toNat : Nat) : Int) = q' by omega] at km
            have hM := hide hm
            clear hm
            by_cases hT : 4294967296 * r' + u0 < m
            · obtain ⟨p0, T', hq'⟩ := trial_next hY.out V1.out b4 T (Or.inr (by have := hM.out; omega))
              clear T
              by_cases hb : 4294967296 ≤ r' + y1
              · have D := trial_far hY.out b2 T' hq' (by omega)
                clear T'
                rw [show q'.toNat - 1 = (q' - 1).toNat by omega] at D
                obtain ⟨z, kz, hz⟩ := last (qd := q' - 1) hY2.out (by omega) D
                clear D
                go_wp2_with fail
                go_ret2
                exact ⟨_, congrArg Ending.returned (tup2 rfl (u64_eq (fin_eq hz.out V2.out hN.out))), rfl⟩
              · go_wp2_with fail
                go_round
                case rel => exact ⟨q' - 1, r' + y1, by go_num, by go_num, by rw [show (q' - 1).toNat = q'.toNat - 1 by omega, show (r' + y1).toNat = r'.toNat + y1 by omega]; exact T', by omega, by omega, by omega, by omega⟩
                case measure => simp [intOf]; omega
            · have D := trial_done hY.out T (by have := hM.out; omega)
              clear T
              obtain ⟨z, kz, hz⟩ := last (qd := q') hY2.out (by omega) D
              clear D
              go_wp2_with fail
              go_ret2
              exact ⟨_, congrArg Ending.returned (tup2 rfl (u64_eq (fin_eq hz.out V2.out hN.out))), rfl⟩
end Go.Proofs.Ytfmhpnendcikoaa
