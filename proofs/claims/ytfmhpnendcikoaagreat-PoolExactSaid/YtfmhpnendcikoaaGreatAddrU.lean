/-
  Contract of longRest: the rest of one number of 128 bits by another of more than 64 bits. Conditions: the words are words of 64 bits (every value of the type is such), the divisor's high word is not 0.
  Contract of Mod: the rest of one number of 128 bits by another, and whether there is one. Conditions: the words are words of 64 bits (every value of the type is such).
-/
import Derived.Test.YtfmhpnendcikoaaGreatAddrR
import Derived.Deep.RegionWith
import Derived.Deep.RegionHeld3
namespace Go.Proofs.YtfmhpnendcikoaaGreat
open Go.RowKit

theorem lead_q (x : Nat) (w : World) (h1 : W64lt x) : Calls Tryz.prog 73 #[.int .u64 x] w fun e w' => e = .returned (.int .i64 (lead x : Nat)) ∧ w' = w :=
  (lead_any x w h1).mono fun _ _ ⟨h, k⟩ => ⟨h, k.symm⟩
theorem lead_le (x : Nat) : lead x ≤ 64 := by unfold lead; omega
theorem word_lt (x : Nat) (h : W64lt x) : x < 2 ^ (64 - lead x) := by
  rcases Nat.eq_zero_or_pos x with e | e
  · rw [e]; exact pow_pos _
  · have ⟨a, _, c⟩ := lead_spec e h
    have d : (18446744073709551616 : Nat) = 2 ^ (64 - lead x) * 2 ^ lead x := by rw [← Nat.pow_add, show 64 - lead x + lead x = 64 by omega]
    rw [d] at c
    exact Nat.lt_of_mul_lt_mul_right c
theorem word_ge {x : Nat} (h : W64lt x) (e : 0 < x) : lead x ≤ 63 ∧ 2 ^ (63 - lead x) ≤ x := by
  have ⟨a, b, _⟩ := lead_spec e h
  have d : (9223372036854775808 : Nat) = 2 ^ (63 - lead x) * 2 ^ lead x := by rw [← Nat.pow_add, show 63 - lead x + lead x = 63 by omega]
  rw [d] at b
  exact ⟨a, Nat.le_of_mul_le_mul_right b (pow_pos _)⟩
theorem addr_lt {a : Nat} (ha : Fits a) : a < 2 ^ (128 - lead (hi a)) := by
  have h1 := word_lt (hi a) (hi_lt ha)
  have h2 := lead_le (hi a)
  have e := hi_lo a
  have l := lo_lt a
  have h3 := Nat.mul_le_mul_right (2 ^ 64) (show hi a + 1 ≤ _ from h1)
  rw [← Nat.pow_add, show 64 - lead (hi a) + 64 = 128 - lead (hi a) by omega] at h3
  generalize 2 ^ (128 - lead (hi a)) = P at *
  omega
theorem addr_ge {b : Nat} (hb : Fits b) (hh : hi b ≠ 0) : lead (hi b) ≤ 63 ∧ 2 ^ (127 - lead (hi b)) ≤ b := by
  have ⟨h2, h1⟩ := word_ge (hi_lt hb) (show 0 < hi b by omega)
  refine ⟨h2, ?_⟩
  have e := hi_lo b
  have h3 := Nat.mul_le_mul_right (2 ^ 64) h1
  rw [← Nat.pow_add, show 63 - lead (hi b) + 64 = 127 - lead (hi b) by omega] at h3
  generalize 2 ^ (127 - lead (hi b)) = P at *
  omega
theorem long_first {a b : Nat} (ha : Fits a) (hb : Fits b) (hh : hi b ≠ 0) : a < b * 2 ^ ((lead (hi b) : Int) - (lead (hi a) : Int) + 1).toNat := by
  have h1 := addr_lt ha
  have ⟨h2, h3⟩ := addr_ge hb hh
  have h4 := lead_le (hi a)
  generalize lead (hi a) = p at *
  generalize lead (hi b) = q at *
  apply Nat.lt_of_lt_of_le h1
  apply Nat.le_trans _ (Nat.mul_le_mul_right _ h3)
  rw [← Nat.pow_add]
  exact pow_le (by omega)
theorem long_up {b n : Nat} (hb : Fits b) (hn : n ≤ lead (hi b)) : upS b n = b * 2 ^ n := by
  have h1 := addr_lt hb
  have h2 := lead_le (hi b)
  unfold upS
  apply Nat.mod_eq_of_lt
  have h3 := (Nat.mul_lt_mul_right (pow_pos n)).2 h1
  rw [← Nat.pow_add] at h3
  exact Nat.lt_of_lt_of_le h3 (pow_le (n := 128) (by omega))
theorem long_less {a b x n : Nat} (h1 : x % b = a % b) (h2 : x < b * 2 ^ (n + 1)) (h : ¬ x < b * 2 ^ n) : (x - b * 2 ^ n) % b = a % b ∧ x - b * 2 ^ n < b * 2 ^ n := by
  rw [Nat.pow_succ, ← Nat.mul_assoc] at h2
  refine ⟨?_, by omega⟩
  rw [← h1]
  conv => rhs; rw [show x = (x - b * 2 ^ n) + b * 2 ^ n by omega]
  rw [Nat.add_mul_mod_self_left]
theorem subS_ge {x y : Nat} (hx : Fits x) (h : y ≤ x) : subS x y = x - y := by unfold subS Fits at *; omega
/-- where the loop stands: what is left of a, and how far b will be moved next -/
def Long (a b x : Nat) (n : Int) : Prop := Fits x ∧ x % b = a % b ∧ x < b * 2 ^ (n + 1).toNat ∧ n ≤ (lead (hi b) : Int)

/-- the three blocks of the call: what is left of a, b, and the result's place -/
def Held (w : World) (x b : Nat) (wr : World) : Prop := Below w.heap.size w wr ∧ w.heap.size < wr.heap.size ∧ w.heap.size + 1 < wr.heap.size ∧ w.heap.size + 1 + 1 < wr.heap.size ∧
  wr.cell? ⟨w.heap.size, 0, none⟩ = some (.int .u64 (hi x : Nat)) ∧ wr.cell? ⟨w.heap.size, 1, none⟩ = some (.int .u64 (lo x : Nat)) ∧
  wr.cell? ⟨w.heap.size + 1, 0, none⟩ = some (.int .u64 (hi b : Nat)) ∧ wr.cell? ⟨w.heap.size + 1, 1, none⟩ = some (.int .u64 (lo b : Nat)) ∧
  wr.cell? ⟨w.heap.size + 1 + 1, 0, none⟩ = some (.int .u64 0) ∧ wr.cell? ⟨w.heap.size + 1 + 1, 1, none⟩ = some (.int .u64 0) ∧
  wr.frozen? ⟨w.heap.size, 0, none⟩ = false ∧ wr.frozen? ⟨w.heap.size, 1, none⟩ = false ∧ wr.frozen? ⟨w.heap.size + 1 + 1, 0, none⟩ = false ∧ wr.frozen? ⟨w.heap.size + 1 + 1, 1, none⟩ = false

theorem cell_keep {W w2 : World} {p : Addr} {v : Value} (hb : Below W.heap.size W w2) (h : W.cell? p = some v) : w2.cell? p = some v := by
  rw [hb.cell (World.block_lt_of_cell? W p h), h]
theorem free_keep {W w2 : World} {p : Addr} (hb : Below W.heap.size W w2) (hl : p.block < W.heap.size) (h : W.frozen? p = false) : w2.frozen? p = false := by
  rw [hb.frozen hl, h]
theorem Held.step {w : World} {x b : Nat} {W w2 : World} (h : Held w x b W) (hb : Below W.heap.size W w2) : Held w x b w2 := by
  obtain ⟨HB, s0, s1, s2, c1, c2, c3, c4, c5, c6, f1, f2, f3, f4⟩ := h
  have z := hb.size
  exact ⟨HB.trans (hb.mono (by omega)), by omega, by omega, by omega, cell_keep hb c1, cell_keep hb c2, cell_keep hb c3, cell_keep hb c4, cell_keep hb c5, cell_keep hb c6, free_keep hb s0 f1, free_keep hb s0 f2, free_keep hb s2 f3, free_keep hb s2 f4⟩
theorem Held.step2 {w : World} {x b : Nat} {W w2 : World} (hb : Below W.heap.size W w2) (h : Held w x b W) : Held w x b w2 := h.step hb
theorem Held.alloc {w : World} {x b : Nat} {W : World} (h : Held w x b W) (o : Obj) : Held w x b (W.alloc o) := h.step (below_alloc W o)
theorem Held.drew {w : World} {x b : Nat} {W : World} (h : Held w x b W) : Held w x b W.drew := h.step (below_drew W)

theorem Held.set {w : World} {x b : Nat} {W : World} (h : Held w x b W) {p : Addr} (hp : w.heap.size + 1 + 1 < p.block) (u : Value) : Held w x b (W.setCell p u) := by
  obtain ⟨HB, s0, s1, s2, c1, c2, c3, c4, c5, c6, f1, f2, f3, f4⟩ := h
  have k : ∀ b o, b ≠ p.block → (W.setCell p u).cell? ⟨b, o, none⟩ = W.cell? ⟨b, o, none⟩ := fun b o hb => World.cell?_of_block (w := W) (Below.heap_setCell W p u b hb)
  have g : ∀ b o, b ≠ p.block → (W.setCell p u).frozen? ⟨b, o, none⟩ = W.frozen? ⟨b, o, none⟩ := fun b o hb => World.frozen?_of_block (w := W) (Below.heap_setCell W p u b hb)
  have z : (W.setCell p u).heap.size = W.heap.size := by simp
  refine ⟨HB.setCell (by omega) u, by omega, by omega, by omega, ?_, ?_, ?_, ?_, ?_, ?_, ?_, ?_, ?_, ?_⟩
  · rw [k _ _ (by omega)]; exact c1
  · rw [k _ _ (by omega)]; exact c2
  · rw [k _ _ (by omega)]; exact c3
  · rw [k _ _ (by omega)]; exact c4
  · rw [k _ _ (by omega)]; exact c5
  · rw [k _ _ (by omega)]; exact c6
  · rw [g _ _ (by omega)]; exact f1
  · rw [g _ _ (by omega)]; exact f2
  · rw [g _ _ (by omega)]; exact f3
  · rw [g _ _ (by omega)]; exact f4
theorem held_all {w : World} {x b : Nat} {W : World} (h : Held w x b W) : Held w x b W ∧
    W.cell? ⟨w.heap.size, 0, none⟩ = some (.int .u64 (hi x : Nat)) ∧ W.cell? ⟨w.heap.size, 1, none⟩ = some (.int .u64 (lo x : Nat)) ∧
    W.cell? ⟨w.heap.size + 1, 0, none⟩ = some (.int .u64 (hi b : Nat)) ∧ W.cell? ⟨w.heap.size + 1, 1, none⟩ = some (.int .u64 (lo b : Nat)) := by
  have h' := h
  obtain ⟨HB, s0, s1, s2, c1, c2, c3, c4, _⟩ := h'
  exact ⟨h, c1, c2, c3, c4⟩
theorem both {T G : Prop} (h : T) (k : T → G) : G := k h
theorem held_drewN {w : World} {x b : Nat} {W : World} (h : Held w x b W) (n : Nat) : Held w x b (W.drewN n) := h.step ⟨rfl, rfl, rfl, Nat.le_refl _, fun _ _ => rfl⟩

/-- a new block of two zero words, behind a call -/
def Fresh (g : Nat) (W : World) : Prop := W.cell? ⟨g, 0, none⟩ = some (.int .u64 0) ∧ W.cell? ⟨g, 1, none⟩ = some (.int .u64 0) ∧ W.frozen? ⟨g, 0, none⟩ = false ∧ W.frozen? ⟨g, 1, none⟩ = false ∧ g < W.heap.size
theorem Fresh.step {g : Nat} {W w2 : World} (h : Fresh g W) (hb : Below W.heap.size W w2) : Fresh g w2 := by
  obtain ⟨a, b, c, d, e⟩ := h
  have z := hb.size
  exact ⟨cell_keep hb a, cell_keep hb b, free_keep hb e c, free_keep hb e d, by omega⟩
theorem fresh_new (V : World) (t : TypeId) : Fresh V.heap.size (V.alloc (.cells #[.int .u64 0, .int .u64 0] t)) := by
  refine ⟨by simp, by simp, ?_, ?_, by simp⟩ <;> simp [go_sem]
theorem fresh_a {V w2 : World} {t : TypeId} (hb : Below (V.alloc (.cells #[.int .u64 0, .int .u64 0] t)).heap.size (V.alloc (.cells #[.int .u64 0, .int .u64 0] t)) w2) : Fresh V.heap.size w2 := (fresh_new V t).step hb
theorem fresh_b {V w2 : World} {t : TypeId} (hb : Below (V.alloc (.cells #[.int .u64 0, .int .u64 0] t)).drew.heap.size (V.alloc (.cells #[.int .u64 0, .int .u64 0] t)).drew w2) : Fresh V.heap.size w2 := ((fresh_new V t).step (below_drew _)).step hb

theorem Held.put {w : World} {x b : Nat} {W : World} (h : Held w x b W) (y : Nat) : Held w y b ((W.setCell ⟨w.heap.size, 0, none⟩ (.int .u64 (hi y : Nat))).setCell ⟨w.heap.size, 1, none⟩ (.int .u64 (lo y : Nat))) := by
  obtain ⟨HB, s0, s1, s2, c1, c2, c3, c4, c5, c6, f1, f2, f3, f4⟩ := h
  refine ⟨(HB.setCell (Nat.le_refl _) _).setCell (Nat.le_refl _) _, by simp; exact s0, by simp; exact s1, by simp; exact s2, ?_, ?_, ?_, ?_, ?_, ?_, ?_, ?_, ?_, ?_⟩
  all_goals simp [go_sem, *]

set_option maxHeartbeats 1000000 in
theorem long_any {a b : Nat} (ha : Fits a) (hb : Fits b) (hh : hi b ≠ 0) (w : World) :
    Calls Tryz.prog 48 #[A a, A b] w (Gives (A (modS a b)) w) := by
  have hA : W64lt (hi a) := hi_lt ha
  have hB : W64lt (hi b) := hi_lt hb
  have la := lead_le (hi a)
  have lb := lead_le (hi b)
  have st : Long a b a ((lead (hi b) : Int) - (lead (hi a) : Int)) := ⟨ha, rfl, long_first ha hb hh, by omega⟩
  have hb0 : b ≠ 0 := fun e => hh (by rw [e]; rfl)
  go_enter Tryz.func48, Tryz.ntmps48
  go_wp2_with fail
  go_quiet ((go_at_call 73; exact Calls.quiet_of_same (lead_q _ _ (by first | exact hA | exact hB))))
  go_wp2_with fail
  go_loopw [5] (fun c wr => ∃ (x : Nat) (n : Int), c = .int .i64 n ∧ Long a b x n ∧ n ≤ 64 ∧ -65 ≤ n ∧ Held w x b wr) (fun c _ => (intOf c + 1).toNat)
  case atStart =>
    refine ⟨a, _, rfl, st, by omega, by omega, ?_, ?_⟩
    · exact ((((Below.refl _ _).alloc (Nat.le_refl _) _).alloc (by simp) _).alloc (by simp; omega) _).trans ⟨rfl, rfl, rfl, Nat.le_refl _, fun _ _ => rfl⟩
    · have z : w.heap.size < w.heap.size + 1 + 1 + 1 := by omega
      have z1 : w.heap.size < w.heap.size + 1 + 1 := by omega
      simp [z]
      simp [go_sem, z1]
  case round =>
    clear st
    obtain ⟨x, n, rfl, L, hn1, hn2, HH⟩ := hrel
    obtain ⟨HB, s0, s1, s2, c1, c2, c3, c4, c5, c6, f1, f2, f3, f4⟩ := id HH
    obtain ⟨L1, L2, L3, L4⟩ := L
    by_cases hn : 0 ≤ n
    · have U := hide (long_up (n := n.toNat) hb (by omega))
      have M2 := hide L2
      have M3 := hide L3
      clear L2 L3
      by_cases hx : x < b * 2 ^ n.toNat
      · have hs : subO x (upS b n.toNat) = true := by unfold subO; rw [U.out]; simpa using hx
        have hy := hide hx
        clear hx
        go_wp2_with fail
        go_region_held3 (fun W => Held w x b W ∧ W.cell? ⟨w.heap.size, 0, none⟩ = some (.int .u64 (hi x : Nat)) ∧ W.cell? ⟨w.heap.size, 1, none⟩ = some (.int .u64 (lo x : Nat)) ∧
            W.cell? ⟨w.heap.size + 1, 0, none⟩ = some (.int .u64 (hi b : Nat)) ∧ W.cell? ⟨w.heap.size + 1, 1, none⟩ = some (.int .u64 (lo b : Nat)))
          (first
            | (refine held_all ?_; (first | exact HH.drew | exact HH.drew.alloc _ | exact (HH.alloc _).drew))
            | (refine held_all ?_; (refine Held.step2 hb2 ?_; (first | exact HH.drew | exact HH.drew.alloc _ | exact (HH.alloc _).drew)))
            | (refine held_all (Held.alloc ?_ _); (refine Held.step2 hb2 ?_; (first | exact HH.drew | exact HH.drew.alloc _ | exact (HH.alloc _).drew)))
            | (refine held_all ?_; (refine Held.step2 hb3 ?_; first | (refine Held.step2 hb2 ?_; (first | exact HH.drew | exact HH.drew.alloc _ | exact (HH.alloc _).drew)) | (refine Held.alloc ?_ _; (refine Held.step2 hb2 ?_; (first | exact HH.drew | exact HH.drew.alloc _ | exact (HH.alloc _).drew)))))
            | (refine held_all (Held.alloc ?_ _); (refine Held.step2 hb3 ?_; first | (refine Held.step2 hb2 ?_; (first | exact HH.drew | exact HH.drew.alloc _ | exact (HH.alloc _).drew)) | (refine Held.alloc ?_ _; (refine Held.step2 hb2 ?_; (first | exact HH.drew | exact HH.drew.alloc _ | exact (HH.alloc _).drew)))))
            | (refine held_all (Held.set (Held.set ?_ ?_ _) ?_ _); (refine Held.step2 hb3 ?_; first | (refine Held.step2 hb2 ?_; (first | exact HH.drew | exact HH.drew.alloc _ | exact (HH.alloc _).drew)) | (refine Held.alloc ?_ _; (refine Held.step2 hb2 ?_; (first | exact HH.drew | exact HH.drew.alloc _ | exact (HH.alloc _).drew)))); all_goals (have zz := hb2.size; (try simp at zz); dsimp only; omega)))
          (first
            | (go_at_call 74; refine (up_any hb n (by unfold I63; omega) _).mono ?_; rintro e w2 ⟨rfl, hb2⟩; (first | (refine both (fresh_b hb2) ?_; intro fr2) | (refine both (fresh_a hb2) ?_; intro fr2) | skip))
            | (go_at_call 52; refine (sub_any L1 (fits_upS _ _) _).mono ?_; rintro e w3 ⟨rfl, hb3⟩; (first | (refine both (Fresh.step fr2 hb3) ?_; rintro ⟨q1, q2, q3, q4, q5⟩) | skip); (first | (refine both (fresh_a hb3) ?_; rintro ⟨r1, r2, r3, r4, r5⟩) | skip)))
        all_goals
          rename_i hF
          obtain ⟨HF, _⟩ := hF
          have HG := HF
          obtain ⟨HBf, s0f, s1f, s2f, c1f, c2f, c3f, c4f, c5f, c6f, f1f, f2f, f3f, f4f⟩ := HG
          go_wp2
          go_roundw
          case rel => exact ⟨x, n - 1, by go_num, ⟨L1, M2.out, by rw [show (n - 1 + 1).toNat = n.toNat by omega]; exact hy.out, by omega⟩, by omega, by omega, HF⟩
          case measure => simp [intOf]; omega
      · have hs : subO x (upS b n.toNat) = false := by unfold subO; rw [U.out]; simp; omega
        have hy := hide (long_less M2.out (by rw [show n.toNat + 1 = (n + 1).toNat by omega]; exact M3.out) hx)
        have V := hide (show subS x (upS b n.toNat) = x - b * 2 ^ n.toNat by rw [U.out]; exact subS_ge L1 (by omega))
        clear hx
        go_wp2_with fail
        go_region_held3 (fun W => Held w x b W ∧ W.cell? ⟨w.heap.size, 0, none⟩ = some (.int .u64 (hi x : Nat)) ∧ W.cell? ⟨w.heap.size, 1, none⟩ = some (.int .u64 (lo x : Nat)) ∧
            W.cell? ⟨w.heap.size + 1, 0, none⟩ = some (.int .u64 (hi b : Nat)) ∧ W.cell? ⟨w.heap.size + 1, 1, none⟩ = some (.int .u64 (lo b : Nat)))
          (first
            | (refine held_all ?_; (first | exact HH.drew | exact HH.drew.alloc _ | exact (HH.alloc _).drew))
            | (refine held_all ?_; (refine Held.step2 hb2 ?_; (first | exact HH.drew | exact HH.drew.alloc _ | exact (HH.alloc _).drew)))
            | (refine held_all (Held.alloc ?_ _); (refine Held.step2 hb2 ?_; (first | exact HH.drew | exact HH.drew.alloc _ | exact (HH.alloc _).drew)))
            | (refine held_all ?_; (refine Held.step2 hb3 ?_; first | (refine Held.step2 hb2 ?_; (first | exact HH.drew | exact HH.drew.alloc _ | exact (HH.alloc _).drew)) | (refine Held.alloc ?_ _; (refine Held.step2 hb2 ?_; (first | exact HH.drew | exact HH.drew.alloc _ | exact (HH.alloc _).drew)))))
            | (refine held_all (Held.alloc ?_ _); (refine Held.step2 hb3 ?_; first | (refine Held.step2 hb2 ?_; (first | exact HH.drew | exact HH.drew.alloc _ | exact (HH.alloc _).drew)) | (refine Held.alloc ?_ _; (refine Held.step2 hb2 ?_; (first | exact HH.drew | exact HH.drew.alloc _ | exact (HH.alloc _).drew)))))
            | (refine held_all (Held.set (Held.set ?_ ?_ _) ?_ _); (refine Held.step2 hb3 ?_; first | (refine Held.step2 hb2 ?_; (first | exact HH.drew | exact HH.drew.alloc _ | exact (HH.alloc _).drew)) | (refine Held.alloc ?_ _; (refine Held.step2 hb2 ?_; (first | exact HH.drew | exact HH.drew.alloc _ | exact (HH.alloc _).drew)))); all_goals (have zz := hb2.size; (try simp at zz); dsimp only; omega)))
          (first
            | (go_at_call 74; refine (up_any hb n (by unfold I63; omega) _).mono ?_; rintro e w2 ⟨rfl, hb2⟩; (first | (refine both (fresh_b hb2) ?_; intro fr2) | (refine both (fresh_a hb2) ?_; intro fr2) | skip))
            | (go_at_call 52; refine (sub_any L1 (fits_upS _ _) _).mono ?_; rintro e w3 ⟨rfl, hb3⟩; (first | (refine both (Fresh.step fr2 hb3) ?_; rintro ⟨q1, q2, q3, q4, q5⟩) | skip); (first | (refine both (fresh_a hb3) ?_; rintro ⟨r1, r2, r3, r4, r5⟩) | skip)))
        all_goals
          rename_i hF
          obtain ⟨HF, _⟩ := hF
          have HG := HF
          obtain ⟨HBf, s0f, s1f, s2f, c1f, c2f, c3f, c4f, c5f, c6f, f1f, f2f, f3f, f4f⟩ := HG
          go_wp2
          go_roundw
          case rel => exact ⟨subS x (upS b n.toNat), n - 1, by go_num, ⟨fits_subS _ _, by rw [V.out]; exact hy.out.1, by rw [V.out, show (n - 1 + 1).toNat = n.toNat by omega]; exact hy.out.2, by omega⟩, by omega, by omega, HF.put _⟩
          case measure => simp [intOf]; omega
    · have E := hide (show modS a b = x by
        unfold modS
        rw [if_neg hb0, ← L2]
        rw [show (n + 1).toNat = 0 by omega, Nat.pow_zero, Nat.mul_one] at L3
        exact Nat.mod_eq_of_lt L3)
      clear L2 L3
      go_wp2
      exact bodyPost_ret (v := A (modS a b)) (by simp [results, Tryz.results48, go_sem, E.out, c5, c6]) rfl ⟨rfl, (HB.setCell (by simp; omega) _).setCell (by simp; omega) _⟩
end Go.Proofs.YtfmhpnendcikoaaGreat
namespace Go.Proofs.YtfmhpnendcikoaaGreat
open Go.RowKit

theorem rem_named {h l y m : Nat} (w : World) (h0 : 0 < y) (h2 : W64lt y) (h3 : W64lt l) (hm : (h * 18446744073709551616 + l) % y = m) :
    Calls Tryz.prog 47 #[.int .u64 h, .int .u64 l, .int .u64 y] w (Gives (.int .u64 (m : Nat)) w) := by
  subst hm
  exact (rem_any w h0 h2 h3).mono fun _ _ h => gets_below h

set_option maxHeartbeats 1000000 in
theorem mod_any {a b : Nat} (ha : Fits a) (hb : Fits b) (w : World) :
    Calls Tryz.prog 27 #[A a, A b] w (Gives (.tuple #[A (modS a b), .bool (modO b)]) w) := by
  by_cases h0 : b = 0
  · subst h0
    have E := hide (show modS a 0 = 0 from rfl)
    have F := hide (show modO 0 = false from rfl)
    have z1 := hi_zero
    have z2 := lo_zero
    go_enter Tryz.func27, Tryz.ntmps27
    go_wp2
    refine bodyPost_ret (v := .tuple #[A (modS a 0), .bool (modO 0)]) ?_ rfl ⟨rfl, (((Below.refl _ _).alloc (Nat.le_refl _) _).alloc (by simp) _).alloc (by simp; omega) _⟩
    rw [E.out, F.out]
    simp [results, Tryz.results27, go_sem, hi_zero, lo_zero]
  have F := hide (show modO b = true by unfold modO; simpa using h0)
  by_cases h1 : hi b = 0
  · have e := hi_lo b
    have h2 : 0 < lo b := by omega
    have E := show (hi a * 18446744073709551616 + lo a) % lo b = modS a b by
      unfold modS; rw [if_neg h0, hi_lo, show lo b = b by omega]
    have hm : modS a b < 18446744073709551616 := by rw [← E]; exact Nat.lt_trans (Nat.mod_lt _ h2) (lo_lt b)
    have E := hide E
    have M1 := hide (hi_small hm)
    have M2 := hide (lo_small hm)
    have hl : W64lt (lo a) := lo_lt a
    have hlb : W64lt (lo b) := lo_lt b
    have p1 : ¬ lo b = 0 := by omega
    have p2 : ((hi b : Int) == 0) = true := by rw [h1]; rfl
    have p3 : ((lo b : Int) == 0) = false := bne0 h2
    clear e hm
    go_enter Tryz.func27, Tryz.ntmps27
    go_wp2_with fail
    refine (rem_named (h := hi a) _ h2 hlb hl E.out).mono ?_
    rintro e w' ⟨rfl, hb2⟩
    obtain ⟨hc, hf⟩ := bcell hb2
    have hz0 : w.heap.size < w'.heap.size := by have := hb2.size; simp at this; omega
    have hz1 : w.heap.size + 1 < w'.heap.size := by have := hb2.size; simp at this; omega
    have hz : w.heap.size + 1 + 1 < w'.heap.size := by have := hb2.size; simp at this; omega
    go_wp2
    refine bodyPost_ret (v := .tuple #[A (modS a b), .bool (modO b)]) ?_ rfl ⟨rfl, ?_⟩
    · rw [F.out]
      simp [results, Tryz.results27, go_sem, hc, M1.out, M2.out]
    · exact ((((((Below.refl _ _).alloc (Nat.le_refl _) _).alloc (by simp) _).alloc (by simp; omega) _).trans (hb2.mono (by simp; omega))).setCell (by simp; omega) _).setCell (by simp; omega) _
  · have p2 : ((hi b : Int) == 0) = false := bne0 (by omega)
    go_enter Tryz.func27, Tryz.ntmps27
    go_wp2_with fail
    refine (long_any ha hb h1 _).mono ?_
    rintro e w' ⟨rfl, hb2⟩
    obtain ⟨hc, hf⟩ := bcell hb2
    have hz0 : w.heap.size < w'.heap.size := by have := hb2.size; simp at this; omega
    have hz1 : w.heap.size + 1 < w'.heap.size := by have := hb2.size; simp at this; omega
    have hz : w.heap.size + 1 + 1 < w'.heap.size := by have := hb2.size; simp at this; omega
    go_wp2
    refine bodyPost_ret (v := .tuple #[A (modS a b), .bool (modO b)]) ?_ rfl ⟨rfl, ?_⟩
    · rw [F.out]
      simp [results, Tryz.results27, go_sem, hc]
    · exact ((((((Below.refl _ _).alloc (Nat.le_refl _) _).alloc (by simp) _).alloc (by simp; omega) _).trans (hb2.mono (by simp; omega))).setCell (by simp; omega) _).setCell (by simp; omega) _
end Go.Proofs.YtfmhpnendcikoaaGreat
