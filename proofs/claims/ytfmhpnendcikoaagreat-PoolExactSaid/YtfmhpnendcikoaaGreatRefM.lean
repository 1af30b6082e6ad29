/-
  Contract of the document's own Mod: it returns what the program's returns. Condition: the words are words of 64 bits (every value of the type is such).
-/
import Derived.Test.YtfmhpnendcikoaaGreatRefU
import Derived.Test.YtfmhpnendcikoaaGreatSpanRc
import Derived.BigQuiet
import Derived.Deep.QuietTactic
namespace Go.Proofs.YtfmhpnendcikoaaGreat
open Go.RowKit

theorem modS_pos {a b : Nat} (h : 0 < b) : modS a b = a % b := by unfold modS; rw [if_neg (by omega)]
theorem bit_zero {a : Nat} (ha : Fits a) (v : Nat) (e : bitS a 0 = v) (w : World) :
    Calls Tryz.prog 55 #[A a, .int .i64 0] w (Gives (.int .u64 (v : Nat)) w) := bit_nat ha 0 v (by omega) e w
theorem rup_one {a : Nat} (ha : Fits a) (w : World) :
    Calls Tryz.prog 56 #[A a, .int .i64 1] w (Gives (A (upS a 1)) w) := rup_any ha 1 (by unfold I63; omega) w
theorem with_127 {a : Nat} (ha : Fits a) (w : World) :
    Calls Tryz.prog 57 #[A a, .int .i64 127] w (Gives (A (withS a 127)) w) := with_nat ha 127 (by omega) w
theorem cmp_is {a b : Nat} (ha : Fits a) (hb : Fits b) (v : Int) (e : cmpS a b = v) (w : World) :
    Calls Tryz.prog 58 #[A a, A b] w (Gives (.int .i64 v) w) := by
  subst e
  exact rcmp_any ha hb w

set_option maxRecDepth 100000 in
set_option maxHeartbeats 1000000 in
theorem rmod_any {a b : Nat} (ha : Fits a) (hb : Fits b) (w : World) :
    Calls Tryz.prog 30 #[A a, A b] w (Gives (.tuple #[A (modS a b), .bool (modO b)]) w) := by
  by_cases h0 : b = 0
  · subst h0
    have E := hide (show modS a 0 = 0 from rfl)
    have F := hide (show modO 0 = false from rfl)
    have z1 := hi_zero
    have z2 := lo_zero
    go_enter Tryz.func30, Tryz.ntmps30
    go_wp2
    refine bodyPost_ret (v := .tuple #[A (modS a 0), .bool (modO 0)]) ?_ rfl ⟨rfl, (((Below.refl _ _).alloc (Nat.le_refl _) _).alloc (by simp) _).alloc (by simp; omega) _⟩
    rw [E.out, F.out]
    simp [results, Tryz.results30, go_sem, hi_zero, lo_zero]
  have K := hide (show modO b = true by unfold modO; simpa using h0)
  have B0 : 0 < b := by omega
  have NZ := words_pos h0
  clear h0
  rcases NZ with NZ | ⟨NY, NZ⟩
  · have p2 : ((hi b : Int) == 0) = false := bne0 NZ
    clear NZ
    go_enter Tryz.func30, Tryz.ntmps30
    go_wp2_with fail
    go_loopw [7] (fun i wr => ∃ k r : Nat, k ≤ 128 ∧ i = .int .i64 k ∧ Hid (r = a / 2 ^ (128 - k) % b) ∧ H4 w a b r wr) (fun i _ => 128 - (intOf i).toNat)
    case atStart => exact ⟨0, 0, by omega, rfl, hide (mod_start ha).symm, h4_new w a b _⟩
    case round =>
      obtain ⟨k, r, hk, rfl, E, HH⟩ := hrel
      obtain ⟨⟨HB, ⟨a0, a1, a2, a3, a4⟩, b0, b1, b2, b3, b4⟩, ⟨c0, c1, c2, c3, c4⟩, d0, d1, d2, d3, d4⟩ := id HH
      have RB := hide (show r < b by rw [E.out]; exact Nat.mod_lt _ B0)
      have HR : Fits r := Nat.lt_trans RB.out hb
      by_cases hlt : k < 128
      · have b5 := bitS_lt r 0
        have b6 := bitS_lt a k
        have hx : bitS r 0 = 0 ∨ bitS r 0 = 1 := by omega
        have hy : bitS a k = 0 ∨ bitS a k = 1 := by omega
        clear b5 b6
        rcases hx with hx | hx
        · have AH := hide hx
          clear hx
          rcases hy with hy | hy
          · have A1 := hide hy
            clear hy
            rcases Nat.lt_trichotomy (modW a r k) b with hc | hc | hc
            · have CV := hide (cmpS_lt hc)
              have CB := hide hc
              clear hc
              go_wp2_with fail
              refine (bit_zero HR 0 AH.out _).mono ?_
              rintro e w2 ⟨rfl, hb2⟩
              clear a0 a1 a2 a3 a4 b0 b1 b2 b3 b4 c0 c1 c2 c3 c4 d0 d1 d2 d3 d4 HB
              have HF := H4.step hb2 HH
              clear HH hb2
              obtain ⟨⟨HB, ⟨a0, a1, a2, a3, a4⟩, b0, b1, b2, b3, b4⟩, ⟨c0, c1, c2, c3, c4⟩, d0, d1, d2, d3, d4⟩ := id HF
              go_wp2_with fail
              refine (rup_one HR _).mono ?_
              rintro e w3 ⟨rfl, hb3⟩
              clear a0 a1 a2 a3 a4 b0 b1 b2 b3 b4 c0 c1 c2 c3 c4 d0 d1 d2 d3 d4 HB
              have HG := H4.step hb3 HF
              clear HF hb3
              obtain ⟨⟨HB, ⟨a0, a1, a2, a3, a4⟩, b0, b1, b2, b3, b4⟩, ⟨c0, c1, c2, c3, c4⟩, d0, d1, d2, d3, d4⟩ := id HG
              go_wp2_with fail
              refine (bit_nat ha k 0 hlt A1.out _).mono ?_
              rintro e w4 ⟨rfl, hb4⟩
              clear a0 a1 a2 a3 a4 b0 b1 b2 b3 b4 c0 c1 c2 c3 c4 d0 d1 d2 d3 d4 HB
              have HI := H4.step hb4 (HG.put (upS r 1))
              clear HG hb4
              obtain ⟨⟨HB, ⟨a0, a1, a2, a3, a4⟩, b0, b1, b2, b3, b4⟩, ⟨c0, c1, c2, c3, c4⟩, d0, d1, d2, d3, d4⟩ := id HI
              have MW := modW_skip (r := r) (fun e : bitS a k = 1 => by rw [A1.out] at e; cases e)
              rw [MW] at HI d0 d1
              clear MW
              go_wp2_with fail
              refine (cmp_is (fits_modW a r k) hb (-1) CV.out _).mono ?_
              rintro e w6 ⟨rfl, hb6⟩
              clear a0 a1 a2 a3 a4 b0 b1 b2 b3 b4 c0 c1 c2 c3 c4 d0 d1 d2 d3 d4 HB
              have HK := H4.step hb6 HI
              clear hb6
              obtain ⟨⟨HB, ⟨a0, a1, a2, a3, a4⟩, b0, b1, b2, b3, b4⟩, ⟨c0, c1, c2, c3, c4⟩, d0, d1, d2, d3, d4⟩ := id HK
              go_wp2
              go_roundw
              case rel => exact ⟨k + 1, _, by omega, by go_num, hide (by rw [mod_next hlt, ← E.out]; exact mod_keep hb RB.out (by rw [AH.out]; omega) CB.out), HK⟩
              case measure => simp [intOf]; omega
            · have CV := hide (cmpS_eq hc)
              have CB := hide (Nat.le_of_eq hc.symm)
              clear hc
              go_wp2_with fail
              refine (bit_zero HR 0 AH.out _).mono ?_
              rintro e w2 ⟨rfl, hb2⟩
              clear a0 a1 a2 a3 a4 b0 b1 b2 b3 b4 c0 c1 c2 c3 c4 d0 d1 d2 d3 d4 HB
              have HF := H4.step hb2 HH
              clear HH hb2
              obtain ⟨⟨HB, ⟨a0, a1, a2, a3, a4⟩, b0, b1, b2, b3, b4⟩, ⟨c0, c1, c2, c3, c4⟩, d0, d1, d2, d3, d4⟩ := id HF
              go_wp2_with fail
              refine (rup_one HR _).mono ?_
              rintro e w3 ⟨rfl, hb3⟩
              clear a0 a1 a2 a3 a4 b0 b1 b2 b3 b4 c0 c1 c2 c3 c4 d0 d1 d2 d3 d4 HB
              have HG := H4.step hb3 HF
              clear HF hb3
              obtain ⟨⟨HB, ⟨a0, a1, a2, a3, a4⟩, b0, b1, b2, b3, b4⟩, ⟨c0, c1, c2, c3, c4⟩, d0, d1, d2, d3, d4⟩ := id HG
              go_wp2_with fail
              refine (bit_nat ha k 0 hlt A1.out _).mono ?_
              rintro e w4 ⟨rfl, hb4⟩
              clear a0 a1 a2 a3 a4 b0 b1 b2 b3 b4 c0 c1 c2 c3 c4 d0 d1 d2 d3 d4 HB
              have HI := H4.step hb4 (HG.put (upS r 1))
              clear HG hb4
              obtain ⟨⟨HB, ⟨a0, a1, a2, a3, a4⟩, b0, b1, b2, b3, b4⟩, ⟨c0, c1, c2, c3, c4⟩, d0, d1, d2, d3, d4⟩ := id HI
              have MW := modW_skip (r := r) (fun e : bitS a k = 1 => by rw [A1.out] at e; cases e)
              rw [MW] at HI d0 d1
              clear MW
              go_wp2_with fail
              refine (cmp_is (fits_modW a r k) hb (0) CV.out _).mono ?_
              rintro e w6 ⟨rfl, hb6⟩
              clear a0 a1 a2 a3 a4 b0 b1 b2 b3 b4 c0 c1 c2 c3 c4 d0 d1 d2 d3 d4 HB
              have HK := H4.step hb6 HI
              clear hb6
              obtain ⟨⟨HB, ⟨a0, a1, a2, a3, a4⟩, b0, b1, b2, b3, b4⟩, ⟨c0, c1, c2, c3, c4⟩, d0, d1, d2, d3, d4⟩ := id HK
              go_wp2_with fail
              refine (rsub_any (fits_modW a r k) hb _).mono ?_
              rintro e w7 ⟨rfl, hb7⟩
              clear a0 a1 a2 a3 a4 b0 b1 b2 b3 b4 c0 c1 c2 c3 c4 d0 d1 d2 d3 d4 HB
              have HL := H4.step hb7 HK
              clear hb7
              obtain ⟨⟨HB, ⟨a0, a1, a2, a3, a4⟩, b0, b1, b2, b3, b4⟩, ⟨c0, c1, c2, c3, c4⟩, d0, d1, d2, d3, d4⟩ := id HL
              go_wp2
              go_roundw
              case rel => exact ⟨k + 1, _, by omega, by go_num, hide (by rw [mod_next hlt, ← E.out]; exact mod_sub_low hb RB.out (by rw [AH.out]; omega) CB.out), HL.put _⟩
              case measure => simp [intOf]; omega
            · have CV := hide (cmpS_gt hc)
              have CB := hide (Nat.le_of_lt hc)
              clear hc
              go_wp2_with fail
              refine (bit_zero HR 0 AH.out _).mono ?_
              rintro e w2 ⟨rfl, hb2⟩
              clear a0 a1 a2 a3 a4 b0 b1 b2 b3 b4 c0 c1 c2 c3 c4 d0 d1 d2 d3 d4 HB
              have HF := H4.step hb2 HH
              clear HH hb2
              obtain ⟨⟨HB, ⟨a0, a1, a2, a3, a4⟩, b0, b1, b2, b3, b4⟩, ⟨c0, c1, c2, c3, c4⟩, d0, d1, d2, d3, d4⟩ := id HF
              go_wp2_with fail
              refine (rup_one HR _).mono ?_
              rintro e w3 ⟨rfl, hb3⟩
              clear a0 a1 a2 a3 a4 b0 b1 b2 b3 b4 c0 c1 c2 c3 c4 d0 d1 d2 d3 d4 HB
              have HG := H4.step hb3 HF
              clear HF hb3
              obtain ⟨⟨HB, ⟨a0, a1, a2, a3, a4⟩, b0, b1, b2, b3, b4⟩, ⟨c0, c1, c2, c3, c4⟩, d0, d1, d2, d3, d4⟩ := id HG
              go_wp2_with fail
              refine (bit_nat ha k 0 hlt A1.out _).mono ?_
              rintro e w4 ⟨rfl, hb4⟩
              clear a0 a1 a2 a3 a4 b0 b1 b2 b3 b4 c0 c1 c2 c3 c4 d0 d1 d2 d3 d4 HB
              have HI := H4.step hb4 (HG.put (upS r 1))
              clear HG hb4
              obtain ⟨⟨HB, ⟨a0, a1, a2, a3, a4⟩, b0, b1, b2, b3, b4⟩, ⟨c0, c1, c2, c3, c4⟩, d0, d1, d2, d3, d4⟩ := id HI
              have MW := modW_skip (r := r) (fun e : bitS a k = 1 => by rw [A1.out] at e; cases e)
              rw [MW] at HI d0 d1
              clear MW
              go_wp2_with fail
              refine (cmp_is (fits_modW a r k) hb (1) CV.out _).mono ?_
              rintro e w6 ⟨rfl, hb6⟩
              clear a0 a1 a2 a3 a4 b0 b1 b2 b3 b4 c0 c1 c2 c3 c4 d0 d1 d2 d3 d4 HB
              have HK := H4.step hb6 HI
              clear hb6
              obtain ⟨⟨HB, ⟨a0, a1, a2, a3, a4⟩, b0, b1, b2, b3, b4⟩, ⟨c0, c1, c2, c3, c4⟩, d0, d1, d2, d3, d4⟩ := id HK
              go_wp2_with fail
              refine (rsub_any (fits_modW a r k) hb _).mono ?_
              rintro e w7 ⟨rfl, hb7⟩
              clear a0 a1 a2 a3 a4 b0 b1 b2 b3 b4 c0 c1 c2 c3 c4 d0 d1 d2 d3 d4 HB
              have HL := H4.step hb7 HK
              clear hb7
              obtain ⟨⟨HB, ⟨a0, a1, a2, a3, a4⟩, b0, b1, b2, b3, b4⟩, ⟨c0, c1, c2, c3, c4⟩, d0, d1, d2, d3, d4⟩ := id HL
              go_wp2
              go_roundw
              case rel => exact ⟨k + 1, _, by omega, by go_num, hide (by rw [mod_next hlt, ← E.out]; exact mod_sub_low hb RB.out (by rw [AH.out]; omega) CB.out), HL.put _⟩
              case measure => simp [intOf]; omega
          · have A1 := hide hy
            clear hy
            rcases Nat.lt_trichotomy (modW a r k) b with hc | hc | hc
            · have CV := hide (cmpS_lt hc)
              have CB := hide hc
              clear hc
              go_wp2_with fail
              refine (bit_zero HR 0 AH.out _).mono ?_
              rintro e w2 ⟨rfl, hb2⟩
              clear a0 a1 a2 a3 a4 b0 b1 b2 b3 b4 c0 c1 c2 c3 c4 d0 d1 d2 d3 d4 HB
              have HF := H4.step hb2 HH
              clear HH hb2
              obtain ⟨⟨HB, ⟨a0, a1, a2, a3, a4⟩, b0, b1, b2, b3, b4⟩, ⟨c0, c1, c2, c3, c4⟩, d0, d1, d2, d3, d4⟩ := id HF
              go_wp2_with fail
              refine (rup_one HR _).mono ?_
              rintro e w3 ⟨rfl, hb3⟩
              clear a0 a1 a2 a3 a4 b0 b1 b2 b3 b4 c0 c1 c2 c3 c4 d0 d1 d2 d3 d4 HB
              have HG := H4.step hb3 HF
              clear HF hb3
              obtain ⟨⟨HB, ⟨a0, a1, a2, a3, a4⟩, b0, b1, b2, b3, b4⟩, ⟨c0, c1, c2, c3, c4⟩, d0, d1, d2, d3, d4⟩ := id HG
              go_wp2_with fail
              refine (bit_nat ha k 1 hlt A1.out _).mono ?_
              rintro e w4 ⟨rfl, hb4⟩
              clear a0 a1 a2 a3 a4 b0 b1 b2 b3 b4 c0 c1 c2 c3 c4 d0 d1 d2 d3 d4 HB
              have HI := H4.step hb4 (HG.put (upS r 1))
              clear HG hb4
              obtain ⟨⟨HB, ⟨a0, a1, a2, a3, a4⟩, b0, b1, b2, b3, b4⟩, ⟨c0, c1, c2, c3, c4⟩, d0, d1, d2, d3, d4⟩ := id HI
              go_wp2_with fail
              refine (with_127 (fits_upS r 1) _).mono ?_
              rintro e w5 ⟨rfl, hb5⟩
              clear a0 a1 a2 a3 a4 b0 b1 b2 b3 b4 c0 c1 c2 c3 c4 d0 d1 d2 d3 d4 HB
              have HJ := H4.step hb5 HI
              clear HI hb5
              obtain ⟨⟨HB, ⟨a0, a1, a2, a3, a4⟩, b0, b1, b2, b3, b4⟩, ⟨c0, c1, c2, c3, c4⟩, d0, d1, d2, d3, d4⟩ := id HJ
              rw [modW_set A1.out]
              go_wp2_with fail
              refine (cmp_is (fits_modW a r k) hb (-1) CV.out _).mono ?_
              rintro e w6 ⟨rfl, hb6⟩
              clear a0 a1 a2 a3 a4 b0 b1 b2 b3 b4 c0 c1 c2 c3 c4 d0 d1 d2 d3 d4 HB
              have HK := H4.step hb6 (HJ.put (modW a r k))
              clear hb6
              obtain ⟨⟨HB, ⟨a0, a1, a2, a3, a4⟩, b0, b1, b2, b3, b4⟩, ⟨c0, c1, c2, c3, c4⟩, d0, d1, d2, d3, d4⟩ := id HK
              go_wp2
              go_roundw
              case rel => exact ⟨k + 1, _, by omega, by go_num, hide (by rw [mod_next hlt, ← E.out]; exact mod_keep hb RB.out (by rw [AH.out]; omega) CB.out), HK⟩
              case measure => simp [intOf]; omega
            · have CV := hide (cmpS_eq hc)
              have CB := hide (Nat.le_of_eq hc.symm)
              clear hc
              go_wp2_with fail
              refine (bit_zero HR 0 AH.out _).mono ?_
              rintro e w2 ⟨rfl, hb2⟩
              clear a0 a1 a2 a3 a4 b0 b1 b2 b3 b4 c0 c1 c2 c3 c4 d0 d1 d2 d3 d4 HB
              have HF := H4.step hb2 HH
              clear HH hb2
              obtain ⟨⟨HB, ⟨a0, a1, a2, a3, a4⟩, b0, b1, b2, b3, b4⟩, ⟨c0, c1, c2, c3, c4⟩, d0, d1, d2, d3, d4⟩ := id HF
              go_wp2_with fail
              refine (rup_one HR _).mono ?_
              rintro e w3 ⟨rfl, hb3⟩
              clear a0 a1 a2 a3 a4 b0 b1 b2 b3 b4 c0 c1 c2 c3 c4 d0 d1 d2 d3 d4 HB
              have HG := H4.step hb3 HF
              clear HF hb3
              obtain ⟨⟨HB, ⟨a0, a1, a2, a3, a4⟩, b0, b1, b2, b3, b4⟩, ⟨c0, c1, c2, c3, c4⟩, d0, d1, d2, d3, d4⟩ := id HG
              go_wp2_with fail
              refine (bit_nat ha k 1 hlt A1.out _).mono ?_
              rintro e w4 ⟨rfl, hb4⟩
              clear a0 a1 a2 a3 a4 b0 b1 b2 b3 b4 c0 c1 c2 c3 c4 d0 d1 d2 d3 d4 HB
              have HI := H4.step hb4 (HG.put (upS r 1))
              clear HG hb4
              obtain ⟨⟨HB, ⟨a0, a1, a2, a3, a4⟩, b0, b1, b2, b3, b4⟩, ⟨c0, c1, c2, c3, c4⟩, d0, d1, d2, d3, d4⟩ := id HI
              go_wp2_with fail
              refine (with_127 (fits_upS r 1) _).mono ?_
              rintro e w5 ⟨rfl, hb5⟩
              clear a0 a1 a2 a3 a4 b0 b1 b2 b3 b4 c0 c1 c2 c3 c4 d0 d1 d2 d3 d4 HB
              have HJ := H4.step hb5 HI
              clear HI hb5
              obtain ⟨⟨HB, ⟨a0, a1, a2, a3, a4⟩, b0, b1, b2, b3, b4⟩, ⟨c0, c1, c2, c3, c4⟩, d0, d1, d2, d3, d4⟩ := id HJ
              rw [modW_set A1.out]
              go_wp2_with fail
              refine (cmp_is (fits_modW a r k) hb (0) CV.out _).mono ?_
              rintro e w6 ⟨rfl, hb6⟩
              clear a0 a1 a2 a3 a4 b0 b1 b2 b3 b4 c0 c1 c2 c3 c4 d0 d1 d2 d3 d4 HB
              have HK := H4.step hb6 (HJ.put (modW a r k))
              clear hb6
              obtain ⟨⟨HB, ⟨a0, a1, a2, a3, a4⟩, b0, b1, b2, b3, b4⟩, ⟨c0, c1, c2, c3, c4⟩, d0, d1, d2, d3, d4⟩ := id HK
              go_wp2_with fail
              refine (rsub_any (fits_modW a r k) hb _).mono ?_
              rintro e w7 ⟨rfl, hb7⟩
              clear a0 a1 a2 a3 a4 b0 b1 b2 b3 b4 c0 c1 c2 c3 c4 d0 d1 d2 d3 d4 HB
              have HL := H4.step hb7 HK
              clear hb7
              obtain ⟨⟨HB, ⟨a0, a1, a2, a3, a4⟩, b0, b1, b2, b3, b4⟩, ⟨c0, c1, c2, c3, c4⟩, d0, d1, d2, d3, d4⟩ := id HL
              go_wp2
              go_roundw
              case rel => exact ⟨k + 1, _, by omega, by go_num, hide (by rw [mod_next hlt, ← E.out]; exact mod_sub_low hb RB.out (by rw [AH.out]; omega) CB.out), HL.put _⟩
              case measure => simp [intOf]; omega
            · have CV := hide (cmpS_gt hc)
              have CB := hide (Nat.le_of_lt hc)
              clear hc
              go_wp2_with fail
              refine (bit_zero HR 0 AH.out _).mono ?_
              rintro e w2 ⟨rfl, hb2⟩
              clear a0 a1 a2 a3 a4 b0 b1 b2 b3 b4 c0 c1 c2 c3 c4 d0 d1 d2 d3 d4 HB
              have HF := H4.step hb2 HH
              clear HH hb2
              obtain ⟨⟨HB, ⟨a0, a1, a2, a3, a4⟩, b0, b1, b2, b3, b4⟩, ⟨c0, c1, c2, c3, c4⟩, d0, d1, d2, d3, d4⟩ := id HF
              go_wp2_with fail
              refine (rup_one HR _).mono ?_
              rintro e w3 ⟨rfl, hb3⟩
              clear a0 a1 a2 a3 a4 b0 b1 b2 b3 b4 c0 c1 c2 c3 c4 d0 d1 d2 d3 d4 HB
              have HG := H4.step hb3 HF
              clear HF hb3
              obtain ⟨⟨HB, ⟨a0, a1, a2, a3, a4⟩, b0, b1, b2, b3, b4⟩, ⟨c0, c1, c2, c3, c4⟩, d0, d1, d2, d3, d4⟩ := id HG
              go_wp2_with fail
              refine (bit_nat ha k 1 hlt A1.out _).mono ?_
              rintro e w4 ⟨rfl, hb4⟩
              clear a0 a1 a2 a3 a4 b0 b1 b2 b3 b4 c0 c1 c2 c3 c4 d0 d1 d2 d3 d4 HB
              have HI := H4.step hb4 (HG.put (upS r 1))
              clear HG hb4
              obtain ⟨⟨HB, ⟨a0, a1, a2, a3, a4⟩, b0, b1, b2, b3, b4⟩, ⟨c0, c1, c2, c3, c4⟩, d0, d1, d2, d3, d4⟩ := id HI
              go_wp2_with fail
              refine (with_127 (fits_upS r 1) _).mono ?_
              rintro e w5 ⟨rfl, hb5⟩
              clear a0 a1 a2 a3 a4 b0 b1 b2 b3 b4 c0 c1 c2 c3 c4 d0 d1 d2 d3 d4 HB
              have HJ := H4.step hb5 HI
              clear HI hb5
              obtain ⟨⟨HB, ⟨a0, a1, a2, a3, a4⟩, b0, b1, b2, b3, b4⟩, ⟨c0, c1, c2, c3, c4⟩, d0, d1, d2, d3, d4⟩ := id HJ
              rw [modW_set A1.out]
              go_wp2_with fail
              refine (cmp_is (fits_modW a r k) hb (1) CV.out _).mono ?_
              rintro e w6 ⟨rfl, hb6⟩
              clear a0 a1 a2 a3 a4 b0 b1 b2 b3 b4 c0 c1 c2 c3 c4 d0 d1 d2 d3 d4 HB
              have HK := H4.step hb6 (HJ.put (modW a r k))
              clear hb6
              obtain ⟨⟨HB, ⟨a0, a1, a2, a3, a4⟩, b0, b1, b2, b3, b4⟩, ⟨c0, c1, c2, c3, c4⟩, d0, d1, d2, d3, d4⟩ := id HK
              go_wp2_with fail
              refine (rsub_any (fits_modW a r k) hb _).mono ?_
              rintro e w7 ⟨rfl, hb7⟩
              clear a0 a1 a2 a3 a4 b0 b1 b2 b3 b4 c0 c1 c2 c3 c4 d0 d1 d2 d3 d4 HB
              have HL := H4.step hb7 HK
              clear hb7
              obtain ⟨⟨HB, ⟨a0, a1, a2, a3, a4⟩, b0, b1, b2, b3, b4⟩, ⟨c0, c1, c2, c3, c4⟩, d0, d1, d2, d3, d4⟩ := id HL
              go_wp2
              go_roundw
              case rel => exact ⟨k + 1, _, by omega, by go_num, hide (by rw [mod_next hlt, ← E.out]; exact mod_sub_low hb RB.out (by rw [AH.out]; omega) CB.out), HL.put _⟩
              case measure => simp [intOf]; omega
        · have AH := hide hx
          clear hx
          rcases hy with hy | hy
          · have A1 := hide hy
            clear hy
            go_wp2_with fail
            refine (bit_zero HR 1 AH.out _).mono ?_
            rintro e w2 ⟨rfl, hb2⟩
            clear a0 a1 a2 a3 a4 b0 b1 b2 b3 b4 c0 c1 c2 c3 c4 d0 d1 d2 d3 d4 HB
            have HF := H4.step hb2 HH
            clear HH hb2
            obtain ⟨⟨HB, ⟨a0, a1, a2, a3, a4⟩, b0, b1, b2, b3, b4⟩, ⟨c0, c1, c2, c3, c4⟩, d0, d1, d2, d3, d4⟩ := id HF
            go_wp2_with fail
            refine (rup_one HR _).mono ?_
            rintro e w3 ⟨rfl, hb3⟩
            clear a0 a1 a2 a3 a4 b0 b1 b2 b3 b4 c0 c1 c2 c3 c4 d0 d1 d2 d3 d4 HB
            have HG := H4.step hb3 HF
            clear HF hb3
            obtain ⟨⟨HB, ⟨a0, a1, a2, a3, a4⟩, b0, b1, b2, b3, b4⟩, ⟨c0, c1, c2, c3, c4⟩, d0, d1, d2, d3, d4⟩ := id HG
            go_wp2_with fail
            refine (bit_nat ha k 0 hlt A1.out _).mono ?_
            rintro e w4 ⟨rfl, hb4⟩
            clear a0 a1 a2 a3 a4 b0 b1 b2 b3 b4 c0 c1 c2 c3 c4 d0 d1 d2 d3 d4 HB
            have HI := H4.step hb4 (HG.put (upS r 1))
            clear HG hb4
            obtain ⟨⟨HB, ⟨a0, a1, a2, a3, a4⟩, b0, b1, b2, b3, b4⟩, ⟨c0, c1, c2, c3, c4⟩, d0, d1, d2, d3, d4⟩ := id HI
            have MW := modW_skip (r := r) (fun e : bitS a k = 1 => by rw [A1.out] at e; cases e)
            rw [MW] at HI d0 d1
            clear MW
            go_wp2_with fail
            refine (rsub_any (fits_modW a r k) hb _).mono ?_
            rintro e w7 ⟨rfl, hb7⟩
            clear a0 a1 a2 a3 a4 b0 b1 b2 b3 b4 c0 c1 c2 c3 c4 d0 d1 d2 d3 d4 HB
            have HL := H4.step hb7 HI
            clear hb7
            obtain ⟨⟨HB, ⟨a0, a1, a2, a3, a4⟩, b0, b1, b2, b3, b4⟩, ⟨c0, c1, c2, c3, c4⟩, d0, d1, d2, d3, d4⟩ := id HL
            go_wp2
            go_roundw
            case rel => exact ⟨k + 1, _, by omega, by go_num, hide (by rw [mod_next hlt, ← E.out]; exact mod_sub_high hb RB.out AH.out), HL.put _⟩
            case measure => simp [intOf]; omega
          · have A1 := hide hy
            clear hy
            go_wp2_with fail
            refine (bit_zero HR 1 AH.out _).mono ?_
            rintro e w2 ⟨rfl, hb2⟩
            clear a0 a1 a2 a3 a4 b0 b1 b2 b3 b4 c0 c1 c2 c3 c4 d0 d1 d2 d3 d4 HB
            have HF := H4.step hb2 HH
            clear HH hb2
            obtain ⟨⟨HB, ⟨a0, a1, a2, a3, a4⟩, b0, b1, b2, b3, b4⟩, ⟨c0, c1, c2, c3, c4⟩, d0, d1, d2, d3, d4⟩ := id HF
            go_wp2_with fail
            refine (rup_one HR _).mono ?_
            rintro e w3 ⟨rfl, hb3⟩
            clear a0 a1 a2 a3 a4 b0 b1 b2 b3 b4 c0 c1 c2 c3 c4 d0 d1 d2 d3 d4 HB
            have HG := H4.step hb3 HF
            clear HF hb3
            obtain ⟨⟨HB, ⟨a0, a1, a2, a3, a4⟩, b0, b1, b2, b3, b4⟩, ⟨c0, c1, c2, c3, c4⟩, d0, d1, d2, d3, d4⟩ := id HG
            go_wp2_with fail
            refine (bit_nat ha k 1 hlt A1.out _).mono ?_
            rintro e w4 ⟨rfl, hb4⟩
            clear a0 a1 a2 a3 a4 b0 b1 b2 b3 b4 c0 c1 c2 c3 c4 d0 d1 d2 d3 d4 HB
            have HI := H4.step hb4 (HG.put (upS r 1))
            clear HG hb4
            obtain ⟨⟨HB, ⟨a0, a1, a2, a3, a4⟩, b0, b1, b2, b3, b4⟩, ⟨c0, c1, c2, c3, c4⟩, d0, d1, d2, d3, d4⟩ := id HI
            go_wp2_with fail
            refine (with_127 (fits_upS r 1) _).mono ?_
            rintro e w5 ⟨rfl, hb5⟩
            clear a0 a1 a2 a3 a4 b0 b1 b2 b3 b4 c0 c1 c2 c3 c4 d0 d1 d2 d3 d4 HB
            have HJ := H4.step hb5 HI
            clear HI hb5
            obtain ⟨⟨HB, ⟨a0, a1, a2, a3, a4⟩, b0, b1, b2, b3, b4⟩, ⟨c0, c1, c2, c3, c4⟩, d0, d1, d2, d3, d4⟩ := id HJ
            rw [modW_set A1.out]
            go_wp2_with fail
            refine (rsub_any (fits_modW a r k) hb _).mono ?_
            rintro e w7 ⟨rfl, hb7⟩
            clear a0 a1 a2 a3 a4 b0 b1 b2 b3 b4 c0 c1 c2 c3 c4 d0 d1 d2 d3 d4 HB
            have HL := H4.step hb7 (HJ.put (modW a r k))
            clear hb7
            obtain ⟨⟨HB, ⟨a0, a1, a2, a3, a4⟩, b0, b1, b2, b3, b4⟩, ⟨c0, c1, c2, c3, c4⟩, d0, d1, d2, d3, d4⟩ := id HL
            go_wp2
            go_roundw
            case rel => exact ⟨k + 1, _, by omega, by go_num, hide (by rw [mod_next hlt, ← E.out]; exact mod_sub_high hb RB.out AH.out), HL.put _⟩
            case measure => simp [intOf]; omega
      · have e : k = 128 := by omega
        subst e
        have hx : r = modS a b := by rw [E.out, show 128 - 128 = 0 from rfl, Nat.pow_zero, Nat.div_one]; exact (modS_pos B0).symm
        subst hx
        clear E RB
        go_wp2
        refine bodyPost_ret (v := .tuple #[A (modS a b), .bool (modO b)]) ?_ rfl ⟨rfl, (HB.setCell (by simp; omega) _).setCell (by simp; omega) _⟩
        rw [K.out]
        simp [results, Tryz.results30, go_sem, c0, c1]
  · have p1 : hi b = 0 := NY
    have p2 : ((hi b : Int) == 0) = true := by rw [p1]; rfl
    have p3 : ((lo b : Int) == 0) = false := bne0 NZ
    clear p1
    clear NZ NY
    go_enter Tryz.func30, Tryz.ntmps30
    go_wp2_with fail
    go_loopw [7] (fun i wr => ∃ k r : Nat, k ≤ 128 ∧ i = .int .i64 k ∧ Hid (r = a / 2 ^ (128 - k) % b) ∧ H4 w a b r wr) (fun i _ => 128 - (intOf i).toNat)
    case atStart => exact ⟨0, 0, by omega, rfl, hide (mod_start ha).symm, h4_new w a b _⟩
    case round =>
      obtain ⟨k, r, hk, rfl, E, HH⟩ := hrel
      obtain ⟨⟨HB, ⟨a0, a1, a2, a3, a4⟩, b0, b1, b2, b3, b4⟩, ⟨c0, c1, c2, c3, c4⟩, d0, d1, d2, d3, d4⟩ := id HH
      have RB := hide (show r < b by rw [E.out]; exact Nat.mod_lt _ B0)
      have HR : Fits r := Nat.lt_trans RB.out hb
      by_cases hlt : k < 128
      · have b5 := bitS_lt r 0
        have b6 := bitS_lt a k
        have hx : bitS r 0 = 0 ∨ bitS r 0 = 1 := by omega
        have hy : bitS a k = 0 ∨ bitS a k = 1 := by omega
        clear b5 b6
        rcases hx with hx | hx
        · have AH := hide hx
          clear hx
          rcases hy with hy | hy
          · have A1 := hide hy
            clear hy
            rcases Nat.lt_trichotomy (modW a r k) b with hc | hc | hc
            · have CV := hide (cmpS_lt hc)
              have CB := hide hc
              clear hc
              go_wp2_with fail
              refine (bit_zero HR 0 AH.out _).mono ?_
              rintro e w2 ⟨rfl, hb2⟩
              clear a0 a1 a2 a3 a4 b0 b1 b2 b3 b4 c0 c1 c2 c3 c4 d0 d1 d2 d3 d4 HB
              have HF := H4.step hb2 HH
              clear HH hb2
              obtain ⟨⟨HB, ⟨a0, a1, a2, a3, a4⟩, b0, b1, b2, b3, b4⟩, ⟨c0, c1, c2, c3, c4⟩, d0, d1, d2, d3, d4⟩ := id HF
              go_wp2_with fail
              refine (rup_one HR _).mono ?_
              rintro e w3 ⟨rfl, hb3⟩
              clear a0 a1 a2 a3 a4 b0 b1 b2 b3 b4 c0 c1 c2 c3 c4 d0 d1 d2 d3 d4 HB
              have HG := H4.step hb3 HF
              clear HF hb3
              obtain ⟨⟨HB, ⟨a0, a1, a2, a3, a4⟩, b0, b1, b2, b3, b4⟩, ⟨c0, c1, c2, c3, c4⟩, d0, d1, d2, d3, d4⟩ := id HG
              go_wp2_with fail
              refine (bit_nat ha k 0 hlt A1.out _).mono ?_
              rintro e w4 ⟨rfl, hb4⟩
              clear a0 a1 a2 a3 a4 b0 b1 b2 b3 b4 c0 c1 c2 c3 c4 d0 d1 d2 d3 d4 HB
              have HI := H4.step hb4 (HG.put (upS r 1))
              clear HG hb4
              obtain ⟨⟨HB, ⟨a0, a1, a2, a3, a4⟩, b0, b1, b2, b3, b4⟩, ⟨c0, c1, c2, c3, c4⟩, d0, d1, d2, d3, d4⟩ := id HI
              have MW := modW_skip (r := r) (fun e : bitS a k = 1 => by rw [A1.out] at e; cases e)
              rw [MW] at HI d0 d1
              clear MW
              go_wp2_with fail
              refine (cmp_is (fits_modW a r k) hb (-1) CV.out _).mono ?_
              rintro e w6 ⟨rfl, hb6⟩
              clear a0 a1 a2 a3 a4 b0 b1 b2 b3 b4 c0 c1 c2 c3 c4 d0 d1 d2 d3 d4 HB
              have HK := H4.step hb6 HI
              clear hb6
              obtain ⟨⟨HB, ⟨a0, a1, a2, a3, a4⟩, b0, b1, b2, b3, b4⟩, ⟨c0, c1, c2, c3, c4⟩, d0, d1, d2, d3, d4⟩ := id HK
              go_wp2
              go_roundw
              case rel => exact ⟨k + 1, _, by omega, by go_num, hide (by rw [mod_next hlt, ← E.out]; exact mod_keep hb RB.out (by rw [AH.out]; omega) CB.out), HK⟩
              case measure => simp [intOf]; omega
            · have CV := hide (cmpS_eq hc)
              have CB := hide (Nat.le_of_eq hc.symm)
              clear hc
              go_wp2_with fail
              refine (bit_zero HR 0 AH.out _).mono ?_
              rintro e w2 ⟨rfl, hb2⟩
              clear a0 a1 a2 a3 a4 b0 b1 b2 b3 b4 c0 c1 c2 c3 c4 d0 d1 d2 d3 d4 HB
              have HF := H4.step hb2 HH
              clear HH hb2
              obtain ⟨⟨HB, ⟨a0, a1, a2, a3, a4⟩, b0, b1, b2, b3, b4⟩, ⟨c0, c1, c2, c3, c4⟩, d0, d1, d2, d3, d4⟩ := id HF
              go_wp2_with fail
              refine (rup_one HR _).mono ?_
              rintro e w3 ⟨rfl, hb3⟩
              clear a0 a1 a2 a3 a4 b0 b1 b2 b3 b4 c0 c1 c2 c3 c4 d0 d1 d2 d3 d4 HB
              have HG := H4.step hb3 HF
              clear HF hb3
              obtain ⟨⟨HB, ⟨a0, a1, a2, a3, a4⟩, b0, b1, b2, b3, b4⟩, ⟨c0, c1, c2, c3, c4⟩, d0, d1, d2, d3, d4⟩ := id HG
              go_wp2_with fail
              refine (bit_nat ha k 0 hlt A1.out _).mono ?_
              rintro e w4 ⟨rfl, hb4⟩
              clear a0 a1 a2 a3 a4 b0 b1 b2 b3 b4 c0 c1 c2 c3 c4 d0 d1 d2 d3 d4 HB
              have HI := H4.step hb4 (HG.put (upS r 1))
              clear HG hb4
              obtain ⟨⟨HB, ⟨a0, a1, a2, a3, a4⟩, b0, b1, b2, b3, b4⟩, ⟨c0, c1, c2, c3, c4⟩, d0, d1, d2, d3, d4⟩ := id HI
              have MW := modW_skip (r := r) (fun e : bitS a k = 1 => by rw [A1.out] at e; cases e)
              rw [MW] at HI d0 d1
              clear MW
              go_wp2_with fail
              refine (cmp_is (fits_modW a r k) hb (0) CV.out _).mono ?_
              rintro e w6 ⟨rfl, hb6⟩
              clear a0 a1 a2 a3 a4 b0 b1 b2 b3 b4 c0 c1 c2 c3 c4 d0 d1 d2 d3 d4 HB
              have HK := H4.step hb6 HI
              clear hb6
              obtain ⟨⟨HB, ⟨a0, a1, a2, a3, a4⟩, b0, b1, b2, b3, b4⟩, ⟨c0, c1, c2, c3, c4⟩, d0, d1, d2, d3, d4⟩ := id HK
              go_wp2_with fail
              refine (rsub_any (fits_modW a r k) hb _).mono ?_
              rintro e w7 ⟨rfl, hb7⟩
              clear a0 a1 a2 a3 a4 b0 b1 b2 b3 b4 c0 c1 c2 c3 c4 d0 d1 d2 d3 d4 HB
              have HL := H4.step hb7 HK
              clear hb7
              obtain ⟨⟨HB, ⟨a0, a1, a2, a3, a4⟩, b0, b1, b2, b3, b4⟩, ⟨c0, c1, c2, c3, c4⟩, d0, d1, d2, d3, d4⟩ := id HL
              go_wp2
              go_roundw
              case rel => exact ⟨k + 1, _, by omega, by go_num, hide (by rw [mod_next hlt, ← E.out]; exact mod_sub_low hb RB.out (by rw [AH.out]; omega) CB.out), HL.put _⟩
              case measure => simp [intOf]; omega
            · have CV := hide (cmpS_gt hc)
              have CB := hide (Nat.le_of_lt hc)
              clear hc
              go_wp2_with fail
              refine (bit_zero HR 0 AH.out _).mono ?_
              rintro e w2 ⟨rfl, hb2⟩
              clear a0 a1 a2 a3 a4 b0 b1 b2 b3 b4 c0 c1 c2 c3 c4 d0 d1 d2 d3 d4 HB
              have HF := H4.step hb2 HH
              clear HH hb2
              obtain ⟨⟨HB, ⟨a0, a1, a2, a3, a4⟩, b0, b1, b2, b3, b4⟩, ⟨c0, c1, c2, c3, c4⟩, d0, d1, d2, d3, d4⟩ := id HF
              go_wp2_with fail
              refine (rup_one HR _).mono ?_
              rintro e w3 ⟨rfl, hb3⟩
              clear a0 a1 a2 a3 a4 b0 b1 b2 b3 b4 c0 c1 c2 c3 c4 d0 d1 d2 d3 d4 HB
              have HG := H4.step hb3 HF
              clear HF hb3
              obtain ⟨⟨HB, ⟨a0, a1, a2, a3, a4⟩, b0, b1, b2, b3, b4⟩, ⟨c0, c1, c2, c3, c4⟩, d0, d1, d2, d3, d4⟩ := id HG
              go_wp2_with fail
              refine (bit_nat ha k 0 hlt A1.out _).mono ?_
              rintro e w4 ⟨rfl, hb4⟩
              clear a0 a1 a2 a3 a4 b0 b1 b2 b3 b4 c0 c1 c2 c3 c4 d0 d1 d2 d3 d4 HB
              have HI := H4.step hb4 (HG.put (upS r 1))
              clear HG hb4
              obtain ⟨⟨HB, ⟨a0, a1, a2, a3, a4⟩, b0, b1, b2, b3, b4⟩, ⟨c0, c1, c2, c3, c4⟩, d0, d1, d2, d3, d4⟩ := id HI
              have MW := modW_skip (r := r) (fun e : bitS a k = 1 => by rw [A1.out] at e; cases e)
              rw [MW] at HI d0 d1
              clear MW
              go_wp2_with fail
              refine (cmp_is (fits_modW a r k) hb (1) CV.out _).mono ?_
              rintro e w6 ⟨rfl, hb6⟩
              clear a0 a1 a2 a3 a4 b0 b1 b2 b3 b4 c0 c1 c2 c3 c4 d0 d1 d2 d3 d4 HB
              have HK := H4.step hb6 HI
              clear hb6
              obtain ⟨⟨HB, ⟨a0, a1, a2, a3, a4⟩, b0, b1, b2, b3, b4⟩, ⟨c0, c1, c2, c3, c4⟩, d0, d1, d2, d3, d4⟩ := id HK
              go_wp2_with fail
              refine (rsub_any (fits_modW a r k) hb _).mono ?_
              rintro e w7 ⟨rfl, hb7⟩
              clear a0 a1 a2 a3 a4 b0 b1 b2 b3 b4 c0 c1 c2 c3 c4 d0 d1 d2 d3 d4 HB
              have HL := H4.step hb7 HK
              clear hb7
              obtain ⟨⟨HB, ⟨a0, a1, a2, a3, a4⟩, b0, b1, b2, b3, b4⟩, ⟨c0, c1, c2, c3, c4⟩, d0, d1, d2, d3, d4⟩ := id HL
              go_wp2
              go_roundw
              case rel => exact ⟨k + 1, _, by omega, by go_num, hide (by rw [mod_next hlt, ← E.out]; exact mod_sub_low hb RB.out (by rw [AH.out]; omega) CB.out), HL.put _⟩
              case measure => simp [intOf]; omega
          · have A1 := hide hy
            clear hy
            rcases Nat.lt_trichotomy (modW a r k) b with hc | hc | hc
            · have CV := hide (cmpS_lt hc)
              have CB := hide hc
              clear hc
              go_wp2_with fail
              refine (bit_zero HR 0 AH.out _).mono ?_
              rintro e w2 ⟨rfl, hb2⟩
              clear a0 a1 a2 a3 a4 b0 b1 b2 b3 b4 c0 c1 c2 c3 c4 d0 d1 d2 d3 d4 HB
              have HF := H4.step hb2 HH
              clear HH hb2
              obtain ⟨⟨HB, ⟨a0, a1, a2, a3, a4⟩, b0, b1, b2, b3, b4⟩, ⟨c0, c1, c2, c3, c4⟩, d0, d1, d2, d3, d4⟩ := id HF
              go_wp2_with fail
              refine (rup_one HR _).mono ?_
              rintro e w3 ⟨rfl, hb3⟩
              clear a0 a1 a2 a3 a4 b0 b1 b2 b3 b4 c0 c1 c2 c3 c4 d0 d1 d2 d3 d4 HB
              have HG := H4.step hb3 HF
              clear HF hb3
              obtain ⟨⟨HB, ⟨a0, a1, a2, a3, a4⟩, b0, b1, b2, b3, b4⟩, ⟨c0, c1, c2, c3, c4⟩, d0, d1, d2, d3, d4⟩ := id HG
              go_wp2_with fail
              refine (bit_nat ha k 1 hlt A1.out _).mono ?_
              rintro e w4 ⟨rfl, hb4⟩
              clear a0 a1 a2 a3 a4 b0 b1 b2 b3 b4 c0 c1 c2 c3 c4 d0 d1 d2 d3 d4 HB
              have HI := H4.step hb4 (HG.put (upS r 1))
              clear HG hb4
              obtain ⟨⟨HB, ⟨a0, a1, a2, a3, a4⟩, b0, b1, b2, b3, b4⟩, ⟨c0, c1, c2, c3, c4⟩, d0, d1, d2, d3, d4⟩ := id HI
              go_wp2_with fail
              refine (with_127 (fits_upS r 1) _).mono ?_
              rintro e w5 ⟨rfl, hb5⟩
              clear a0 a1 a2 a3 a4 b0 b1 b2 b3 b4 c0 c1 c2 c3 c4 d0 d1 d2 d3 d4 HB
              have HJ := H4.step hb5 HI
              clear HI hb5
              obtain ⟨⟨HB, ⟨a0, a1, a2, a3, a4⟩, b0, b1, b2, b3, b4⟩, ⟨c0, c1, c2, c3, c4⟩, d0, d1, d2, d3, d4⟩ := id HJ
              rw [modW_set A1.out]
              go_wp2_with fail
              refine (cmp_is (fits_modW a r k) hb (-1) CV.out _).mono ?_
              rintro e w6 ⟨rfl, hb6⟩
              clear a0 a1 a2 a3 a4 b0 b1 b2 b3 b4 c0 c1 c2 c3 c4 d0 d1 d2 d3 d4 HB
              have HK := H4.step hb6 (HJ.put (modW a r k))
              clear hb6
              obtain ⟨⟨HB, ⟨a0, a1, a2, a3, a4⟩, b0, b1, b2, b3, b4⟩, ⟨c0, c1, c2, c3, c4⟩, d0, d1, d2, d3, d4⟩ := id HK
              go_wp2
              go_roundw
              case rel => exact ⟨k + 1, _, by omega, by go_num, hide (by rw [mod_next hlt, ← E.out]; exact mod_keep hb RB.out (by rw [AH.out]; omega) CB.out), HK⟩
              case measure => simp [intOf]; omega
            · have CV := hide (cmpS_eq hc)
              have CB := hide (Nat.le_of_eq hc.symm)
              clear hc
              go_wp2_with fail
              refine (bit_zero HR 0 AH.out _).mono ?_
              rintro e w2 ⟨rfl, hb2⟩
              clear a0 a1 a2 a3 a4 b0 b1 b2 b3 b4 c0 c1 c2 c3 c4 d0 d1 d2 d3 d4 HB
              have HF := H4.step hb2 HH
              clear HH hb2
              obtain ⟨⟨HB, ⟨a0, a1, a2, a3, a4⟩, b0, b1, b2, b3, b4⟩, ⟨c0, c1, c2, c3, c4⟩, d0, d1, d2, d3, d4⟩ := id HF
              go_wp2_with fail
              refine (rup_one HR _).mono ?_
              rintro e w3 ⟨rfl, hb3⟩
              clear a0 a1 a2 a3 a4 b0 b1 b2 b3 b4 c0 c1 c2 c3 c4 d0 d1 d2 d3 d4 HB
              have HG := H4.step hb3 HF
              clear HF hb3
              obtain ⟨⟨HB, ⟨a0, a1, a2, a3, a4⟩, b0, b1, b2, b3, b4⟩, ⟨c0, c1, c2, c3, c4⟩, d0, d1, d2, d3, d4⟩ := id HG
              go_wp2_with fail
              refine (bit_nat ha k 1 hlt A1.out _).mono ?_
              rintro e w4 ⟨rfl, hb4⟩
              clear a0 a1 a2 a3 a4 b0 b1 b2 b3 b4 c0 c1 c2 c3 c4 d0 d1 d2 d3 d4 HB
              have HI := H4.step hb4 (HG.put (upS r 1))
              clear HG hb4
              obtain ⟨⟨HB, ⟨a0, a1, a2, a3, a4⟩, b0, b1, b2, b3, b4⟩, ⟨c0, c1, c2, c3, c4⟩, d0, d1, d2, d3, d4⟩ := id HI
              go_wp2_with fail
              refine (with_127 (fits_upS r 1) _).mono ?_
              rintro e w5 ⟨rfl, hb5⟩
              clear a0 a1 a2 a3 a4 b0 b1 b2 b3 b4 c0 c1 c2 c3 c4 d0 d1 d2 d3 d4 HB
              have HJ := H4.step hb5 HI
              clear HI hb5
              obtain ⟨⟨HB, ⟨a0, a1, a2, a3, a4⟩, b0, b1, b2, b3, b4⟩, ⟨c0, c1, c2, c3, c4⟩, d0, d1, d2, d3, d4⟩ := id HJ
              rw [modW_set A1.out]
              go_wp2_with fail
              refine (cmp_is (fits_modW a r k) hb (0) CV.out _).mono ?_
              rintro e w6 ⟨rfl, hb6⟩
              clear a0 a1 a2 a3 a4 b0 b1 b2 b3 b4 c0 c1 c2 c3 c4 d0 d1 d2 d3 d4 HB
              have HK := H4.step hb6 (HJ.put (modW a r k))
              clear hb6
              obtain ⟨⟨HB, ⟨a0, a1, a2, a3, a4⟩, b0, b1, b2, b3, b4⟩, ⟨c0, c1, c2, c3, c4⟩, d0, d1, d2, d3, d4⟩ := id HK
              go_wp2_with fail
              refine (rsub_any (fits_modW a r k) hb _).mono ?_
              rintro e w7 ⟨rfl, hb7⟩
              clear a0 a1 a2 a3 a4 b0 b1 b2 b3 b4 c0 c1 c2 c3 c4 d0 d1 d2 d3 d4 HB
              have HL := H4.step hb7 HK
              clear hb7
              obtain ⟨⟨HB, ⟨a0, a1, a2, a3, a4⟩, b0, b1, b2, b3, b4⟩, ⟨c0, c1, c2, c3, c4⟩, d0, d1, d2, d3, d4⟩ := id HL
              go_wp2
              go_roundw
              case rel => exact ⟨k + 1, _, by omega, by go_num, hide (by rw [mod_next hlt, ← E.out]; exact mod_sub_low hb RB.out (by rw [AH.out]; omega) CB.out), HL.put _⟩
              case measure => simp [intOf]; omega
            · have CV := hide (cmpS_gt hc)
              have CB := hide (Nat.le_of_lt hc)
              clear hc
              go_wp2_with fail
              refine (bit_zero HR 0 AH.out _).mono ?_
              rintro e w2 ⟨rfl, hb2⟩
              clear a0 a1 a2 a3 a4 b0 b1 b2 b3 b4 c0 c1 c2 c3 c4 d0 d1 d2 d3 d4 HB
              have HF := H4.step hb2 HH
              clear HH hb2
              obtain ⟨⟨HB, ⟨a0, a1, a2, a3, a4⟩, b0, b1, b2, b3, b4⟩, ⟨c0, c1, c2, c3, c4⟩, d0, d1, d2, d3, d4⟩ := id HF
              go_wp2_with fail
              refine (rup_one HR _).mono ?_
              rintro e w3 ⟨rfl, hb3⟩
              clear a0 a1 a2 a3 a4 b0 b1 b2 b3 b4 c0 c1 c2 c3 c4 d0 d1 d2 d3 d4 HB
              have HG := H4.step hb3 HF
              clear HF hb3
              obtain ⟨⟨HB, ⟨a0, a1, a2, a3, a4⟩, b0, b1, b2, b3, b4⟩, ⟨c0, c1, c2, c3, c4⟩, d0, d1, d2, d3, d4⟩ := id HG
              go_wp2_with fail
              refine (bit_nat ha k 1 hlt A1.out _).mono ?_
              rintro e w4 ⟨rfl, hb4⟩
              clear a0 a1 a2 a3 a4 b0 b1 b2 b3 b4 c0 c1 c2 c3 c4 d0 d1 d2 d3 d4 HB
              have HI := H4.step hb4 (HG.put (upS r 1))
              clear HG hb4
              obtain ⟨⟨HB, ⟨a0, a1, a2, a3, a4⟩, b0, b1, b2, b3, b4⟩, ⟨c0, c1, c2, c3, c4⟩, d0, d1, d2, d3, d4⟩ := id HI
              go_wp2_with fail
              refine (with_127 (fits_upS r 1) _).mono ?_
              rintro e w5 ⟨rfl, hb5⟩
              clear a0 a1 a2 a3 a4 b0 b1 b2 b3 b4 c0 c1 c2 c3 c4 d0 d1 d2 d3 d4 HB
              have HJ := H4.step hb5 HI
              clear HI hb5
              obtain ⟨⟨HB, ⟨a0, a1, a2, a3, a4⟩, b0, b1, b2, b3, b4⟩, ⟨c0, c1, c2, c3, c4⟩, d0, d1, d2, d3, d4⟩ := id HJ
              rw [modW_set A1.out]
              go_wp2_with fail
              refine (cmp_is (fits_modW a r k) hb (1) CV.out _).mono ?_
              rintro e w6 ⟨rfl, hb6⟩
              clear a0 a1 a2 a3 a4 b0 b1 b2 b3 b4 c0 c1 c2 c3 c4 d0 d1 d2 d3 d4 HB
              have HK := H4.step hb6 (HJ.put (modW a r k))
              clear hb6
              obtain ⟨⟨HB, ⟨a0, a1, a2, a3, a4⟩, b0, b1, b2, b3, b4⟩, ⟨c0, c1, c2, c3, c4⟩, d0, d1, d2, d3, d4⟩ := id HK
              go_wp2_with fail
              refine (rsub_any (fits_modW a r k) hb _).mono ?_
              rintro e w7 ⟨rfl, hb7⟩
              clear a0 a1 a2 a3 a4 b0 b1 b2 b3 b4 c0 c1 c2 c3 c4 d0 d1 d2 d3 d4 HB
              have HL := H4.step hb7 HK
              clear hb7
              obtain ⟨⟨HB, ⟨a0, a1, a2, a3, a4⟩, b0, b1, b2, b3, b4⟩, ⟨c0, c1, c2, c3, c4⟩, d0, d1, d2, d3, d4⟩ := id HL
              go_wp2
              go_roundw
              case rel => exact ⟨k + 1, _, by omega, by go_num, hide (by rw [mod_next hlt, ← E.out]; exact mod_sub_low hb RB.out (by rw [AH.out]; omega) CB.out), HL.put _⟩
              case measure => simp [intOf]; omega
        · have AH := hide hx
          clear hx
          rcases hy with hy | hy
          · have A1 := hide hy
            clear hy
            go_wp2_with fail
            refine (bit_zero HR 1 AH.out _).mono ?_
            rintro e w2 ⟨rfl, hb2⟩
            clear a0 a1 a2 a3 a4 b0 b1 b2 b3 b4 c0 c1 c2 c3 c4 d0 d1 d2 d3 d4 HB
            have HF := H4.step hb2 HH
            clear HH hb2
            obtain ⟨⟨HB, ⟨a0, a1, a2, a3, a4⟩, b0, b1, b2, b3, b4⟩, ⟨c0, c1, c2, c3, c4⟩, d0, d1, d2, d3, d4⟩ := id HF
            go_wp2_with fail
            refine (rup_one HR _).mono ?_
            rintro e w3 ⟨rfl, hb3⟩
            clear a0 a1 a2 a3 a4 b0 b1 b2 b3 b4 c0 c1 c2 c3 c4 d0 d1 d2 d3 d4 HB
            have HG := H4.step hb3 HF
            clear HF hb3
            obtain ⟨⟨HB, ⟨a0, a1, a2, a3, a4⟩, b0, b1, b2, b3, b4⟩, ⟨c0, c1, c2, c3, c4⟩, d0, d1, d2, d3, d4⟩ := id HG
            go_wp2_with fail
            refine (bit_nat ha k 0 hlt A1.out _).mono ?_
            rintro e w4 ⟨rfl, hb4⟩
            clear a0 a1 a2 a3 a4 b0 b1 b2 b3 b4 c0 c1 c2 c3 c4 d0 d1 d2 d3 d4 HB
            have HI := H4.step hb4 (HG.put (upS r 1))
            clear HG hb4
            obtain ⟨⟨HB, ⟨a0, a1, a2, a3, a4⟩, b0, b1, b2, b3, b4⟩, ⟨c0, c1, c2, c3, c4⟩, d0, d1, d2, d3, d4⟩ := id HI
            have MW := modW_skip (r := r) (fun e : bitS a k = 1 => by rw [A1.out] at e; cases e)
            rw [MW] at HI d0 d1
            clear MW
            go_wp2_with fail
            refine (rsub_any (fits_modW a r k) hb _).mono ?_
            rintro e w7 ⟨rfl, hb7⟩
            clear a0 a1 a2 a3 a4 b0 b1 b2 b3 b4 c0 c1 c2 c3 c4 d0 d1 d2 d3 d4 HB
            have HL := H4.step hb7 HI
            clear hb7
            obtain ⟨⟨HB, ⟨a0, a1, a2, a3, a4⟩, b0, b1, b2, b3, b4⟩, ⟨c0, c1, c2, c3, c4⟩, d0, d1, d2, d3, d4⟩ := id HL
            go_wp2
            go_roundw
            case rel => exact ⟨k + 1, _, by omega, by go_num, hide (by rw [mod_next hlt, ← E.out]; exact mod_sub_high hb RB.out AH.out), HL.put _⟩
            case measure => simp [intOf]; omega
          · have A1 := hide hy
            clear hy
            go_wp2_with fail
            refine (bit_zero HR 1 AH.out _).mono ?_
            rintro e w2 ⟨rfl, hb2⟩
            clear a0 a1 a2 a3 a4 b0 b1 b2 b3 b4 c0 c1 c2 c3 c4 d0 d1 d2 d3 d4 HB
            have HF := H4.step hb2 HH
            clear HH hb2
            obtain ⟨⟨HB, ⟨a0, a1, a2, a3, a4⟩, b0, b1, b2, b3, b4⟩, ⟨c0, c1, c2, c3, c4⟩, d0, d1, d2, d3, d4⟩ := id HF
            go_wp2_with fail
            refine (rup_one HR _).mono ?_
            rintro e w3 ⟨rfl, hb3⟩
            clear a0 a1 a2 a3 a4 b0 b1 b2 b3 b4 c0 c1 c2 c3 c4 d0 d1 d2 d3 d4 HB
            have HG := H4.step hb3 HF
            clear HF hb3
            obtain ⟨⟨HB, ⟨a0, a1, a2, a3, a4⟩, b0, b1, b2, b3, b4⟩, ⟨c0, c1, c2, c3, c4⟩, d0, d1, d2, d3, d4⟩ := id HG
            go_wp2_with fail
            refine (bit_nat ha k 1 hlt A1.out _).mono ?_
            rintro e w4 ⟨rfl, hb4⟩
            clear a0 a1 a2 a3 a4 b0 b1 b2 b3 b4 c0 c1 c2 c3 c4 d0 d1 d2 d3 d4 HB
            have HI := H4.step hb4 (HG.put (upS r 1))
            clear HG hb4
            obtain ⟨⟨HB, ⟨a0, a1, a2, a3, a4⟩, b0, b1, b2, b3, b4⟩, ⟨c0, c1, c2, c3, c4⟩, d0, d1, d2, d3, d4⟩ := id HI
            go_wp2_with fail
            refine (with_127 (fits_upS r 1) _).mono ?_
            rintro e w5 ⟨rfl, hb5⟩
            clear a0 a1 a2 a3 a4 b0 b1 b2 b3 b4 c0 c1 c2 c3 c4 d0 d1 d2 d3 d4 HB
            have HJ := H4.step hb5 HI
            clear HI hb5
            obtain ⟨⟨HB, ⟨a0, a1, a2, a3, a4⟩, b0, b1, b2, b3, b4⟩, ⟨c0, c1, c2, c3, c4⟩, d0, d1, d2, d3, d4⟩ := id HJ
            rw [modW_set A1.out]
            go_wp2_with fail
            refine (rsub_any (fits_modW a r k) hb _).mono ?_
            rintro e w7 ⟨rfl, hb7⟩
            clear a0 a1 a2 a3 a4 b0 b1 b2 b3 b4 c0 c1 c2 c3 c4 d0 d1 d2 d3 d4 HB
            have HL := H4.step hb7 (HJ.put (modW a r k))
            clear hb7
            obtain ⟨⟨HB, ⟨a0, a1, a2, a3, a4⟩, b0, b1, b2, b3, b4⟩, ⟨c0, c1, c2, c3, c4⟩, d0, d1, d2, d3, d4⟩ := id HL
            go_wp2
            go_roundw
            case rel => exact ⟨k + 1, _, by omega, by go_num, hide (by rw [mod_next hlt, ← E.out]; exact mod_sub_high hb RB.out AH.out), HL.put _⟩
            case measure => simp [intOf]; omega
      · have e : k = 128 := by omega
        subst e
        have hx : r = modS a b := by rw [E.out, show 128 - 128 = 0 from rfl, Nat.pow_zero, Nat.div_one]; exact (modS_pos B0).symm
        subst hx
        clear E RB
        go_wp2
        refine bodyPost_ret (v := .tuple #[A (modS a b), .bool (modO b)]) ?_ rfl ⟨rfl, (HB.setCell (by simp; omega) _).setCell (by simp; omega) _⟩
        rw [K.out]
        simp [results, Tryz.results30, go_sem, c0, c1]
end Go.Proofs.YtfmhpnendcikoaaGreat
