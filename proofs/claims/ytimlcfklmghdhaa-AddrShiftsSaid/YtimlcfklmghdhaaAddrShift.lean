/-
  AddrShifts: for every address and all counts n, m of 8 bits the law returns true: two shifts are one, and up and down again clears the highest bits, down and up again the lowest ones. No condition.
-/
import Derived.Test.YtimlcfklmghdhaaAddrF
import Derived.Deep.DeepCutAuto
namespace Go.Proofs.Ytimlcfklmghdhaa
open Go.RowKit

theorem up_twice (a i k : Nat) : upS (upS a i) k = upS a (i + k) := by
  unfold upS
  rw [Nat.mod_mul_mod, Nat.pow_add, Nat.mul_assoc]
theorem down_twice (a i k : Nat) : downS (downS a i) k = downS a (i + k) := by
  unfold downS
  rw [Nat.div_div_eq_div_mul, Nat.pow_add]
theorem down_up {a : Nat} (ha : Fits a) (i : Nat) (h : i ≤ 128) : upS (downS a i) i = clipS a (128 - i) := by
  unfold upS downS clipS
  rw [show 128 - (128 - i) = i by omega]
  exact Nat.mod_eq_of_lt (Nat.lt_of_le_of_lt (Nat.div_mul_le_self _ _) ha)
theorem up_down (a i : Nat) (h : i ≤ 128) : downS (upS a i) i = a % 2 ^ (128 - i) := by
  unfold upS downS
  rw [show (340282366920938463463374607431768211456 : Nat) = 2 ^ (128 - i) * 2 ^ i from pow_split' h, Nat.mul_mod_mul_right, Nat.mul_div_cancel _ (pow_pos i)]
theorem low_sub {a : Nat} (ha : Fits a) (i : Nat) (h : i ≤ 128) : subS a (upS (downS a (128 - i)) (128 - i)) = downS (upS a i) i := by
  rw [down_up ha _ (by omega), up_down a i h, subS_ge ha (clipS_le _ _)]
  unfold clipS
  rw [show 128 - (128 - (128 - i)) = 128 - i by omega]
  have := Nat.div_add_mod' a (2 ^ (128 - i))
  omega

/-- the address's block, kept over calls -/
def HeldA (w : World) (a : Nat) (W : World) : Prop := Below w.heap.size w W ∧ w.heap.size < W.heap.size ∧ W.cell? ⟨w.heap.size, 0, none⟩ = some (.int .u64 (hi a : Nat)) ∧ W.cell? ⟨w.heap.size, 1, none⟩ = some (.int .u64 (lo a : Nat))
theorem HeldA.step2 {w : World} {a : Nat} {W w2 : World} (hb : Below W.heap.size W w2) (h : HeldA w a W) : HeldA w a w2 := by
  obtain ⟨h1, h2, h3, h4⟩ := h
  have z := hb.size
  exact ⟨h1.trans (hb.mono h1.size), by omega, cell_keep hb h3, cell_keep hb h4⟩
theorem HeldA.drew {w : World} {a : Nat} {W : World} (h : HeldA w a W) : HeldA w a W.drew := HeldA.step2 (below_drew W) h
theorem heldA_all {w : World} {a : Nat} {W : World} (h : HeldA w a W) : HeldA w a W ∧ W.cell? ⟨w.heap.size, 0, none⟩ = some (.int .u64 (hi a : Nat)) ∧ W.cell? ⟨w.heap.size, 1, none⟩ = some (.int .u64 (lo a : Nat)) := ⟨h, h.2.2.1, h.2.2.2⟩

set_option maxRecDepth 100000 in
set_option maxHeartbeats 2000000 in
theorem shifts_far {a : Nat} (ha : Fits a) (x y : Int) (x0 : 0 ≤ x) (x1 : x ≤ 255) (y0 : 0 ≤ y) (y1 : y ≤ 255) (hx : 128 < x) (w : World) : Calls Try.prog 9 #[A a, .int .u8 x, .int .u8 y] w (Gives (.bool true) w) := by
  have hw : IntKind.i64.wrap (x + y) = x + y := IntWalk.i64_in _ ⟨by omega, by omega⟩
  have g1 : upS (upS a x.toNat) y.toNat = upS a (IntKind.i64.wrap (x + y)).toNat := by rw [up_twice, hw]; congr 1; omega
  have g2 : downS (downS a x.toNat) y.toNat = downS a (IntKind.i64.wrap (x + y)).toNat := by rw [down_twice, hw]; congr 1; omega
  have ix : I63 x := by unfold I63; omega
  have iy : I63 y := by unfold I63; omega
  have ixy : I63 (IntKind.i64.wrap (x + y)) := by rw [hw]; unfold I63; omega
  clear hw
  have fu := fits_upS a x.toNat
  have fd := fits_downS ha x.toNat
  have e1 : upS a x.toNat = 0 := upS_zero (by omega)
  have e2 : downS a x.toNat = 0 := downS_zero ha (by omega)
  have z1 := hi_zero
  have z2 := lo_zero
  have E1 := hide e1
  have E2 := hide e2
  clear e1 e2
  go_enter Try.func9, Try.ntmps9
  go_wp2_with fail
  refine (awake_any _).mono ?_
  rintro e w1 ⟨rfl, hb1⟩
  have HH0 : HeldA w a w1 := HeldA.step2 hb1 ⟨(Below.refl _ _).alloc (Nat.le_refl _) _, by simp, by simp, by simp⟩
  obtain ⟨_, a0, a1, a2⟩ := id HH0
  go_wp2_with fail
  go_region_held3 (fun W => HeldA w a W ∧ W.cell? ⟨w.heap.size, 0, none⟩ = some (.int .u64 (hi a : Nat)) ∧ W.cell? ⟨w.heap.size, 1, none⟩ = some (.int .u64 (lo a : Nat)))
    (first
      | exact heldA_all (HeldA.drew HH0)
      | (go_split_ands; refine heldA_all (HeldA.step2 hbx ?_); assumption))
    (first
      | (go_at_call 21; refine (up_any (by first | exact ha | exact fu) _ (by first | exact ix | exact iy | exact ixy) _).mono ?_; rintro e wx ⟨rfl, hbx⟩)
      | (go_at_call 23; refine (down_any (by first | exact ha | exact fd) _ (by first | exact ix | exact iy | exact ixy) _).mono ?_; rintro e wx ⟨rfl, hbx⟩))
  rename_i hF
  obtain ⟨HF, _⟩ := hF
  clear a0 a1 a2 HH0 hb1
  obtain ⟨HB, a0, a1, a2⟩ := HF
  have e1 := E1.out
  have e2 := E2.out
  go_wp2_with fail
  clear g1 g2
  refine (up_any ha x ix _).mono ?_
  rintro e w2 ⟨rfl, hb2⟩
  obtain ⟨hc2, hf2⟩ := bcell hb2
  have hs2 := hb2.size
  (try simp at hs2)
  have z2x0 : w.heap.size < w2.heap.size := by omega
  go_wp2_with fail
  refine (down_any ha x ix _).mono ?_
  rintro e w3 ⟨rfl, hb3⟩
  obtain ⟨hc3, hf3⟩ := bcell hb3
  have hs3 := hb3.size
  (try simp at hs3)
  have z3x0 : w.heap.size < w3.heap.size := by omega
  go_wp2_with fail
  go_ret
  exact ⟨rfl, (chain (chain HB hb2) hb3)⟩

/-- two cells of a block -/
def Two (g : Nat) (l : Nat) (W : World) : Prop := W.cell? ⟨g, 0, none⟩ = some (.int .u64 (hi l : Nat)) ∧ W.cell? ⟨g, 1, none⟩ = some (.int .u64 (lo l : Nat)) ∧ g < W.heap.size
theorem Two.step {g l : Nat} {W w2 : World} (h : Two g l W) (hb : Below W.heap.size W w2) : Two g l w2 := by
  obtain ⟨a, b, c⟩ := h
  have z := hb.size
  exact ⟨cell_keep hb a, cell_keep hb b, by omega⟩
def HeldS (w : World) (a P : Nat) (n : Int) (g : Nat) (W : World) : Prop := HeldA w a W ∧ w.heap.size < g ∧ Three g (.int .u64 (hi P : Nat)) (.int .u64 (lo P : Nat)) (.int .i64 n) W
theorem HeldS.step {w : World} {a P : Nat} {n : Int} {g : Nat} {W w2 : World} (h : HeldS w a P n g W) (hb : Below W.heap.size W w2) : HeldS w a P n g w2 := by
  obtain ⟨h1, h2, h3⟩ := h
  exact ⟨HeldA.step2 hb h1, h2, h3.step hb⟩
theorem HeldS.alloc {w : World} {a P : Nat} {n : Int} {g : Nat} {W : World} (h : HeldS w a P n g W) (o : Obj) : HeldS w a P n g (W.alloc o) := h.step (below_alloc W o)
theorem HeldS.drew {w : World} {a P : Nat} {n : Int} {g : Nat} {W : World} (h : HeldS w a P n g W) : HeldS w a P n g W.drew := h.step (below_drew W)
theorem HeldS.set {w : World} {a P : Nat} {n : Int} {g : Nat} {W : World} (h : HeldS w a P n g W) {q : Addr} (hq : g < q.block) (u : Value) : HeldS w a P n g (W.setCell q u) := by
  obtain ⟨⟨h1, h2, h3, h4⟩, h5, h6⟩ := h
  have k : ∀ o, (W.setCell q u).cell? ⟨w.heap.size, o, none⟩ = W.cell? ⟨w.heap.size, o, none⟩ := fun o => World.cell?_of_block (w := W) (Below.heap_setCell W q u w.heap.size (by omega))
  have z : (W.setCell q u).heap.size = W.heap.size := by simp
  exact ⟨⟨h1.setCell (by omega) u, by omega, (k 0).trans h3, (k 1).trans h4⟩, h5, three_set h6 (by omega) u⟩
theorem heldS_lt {w : World} {a P : Nat} {n : Int} {g : Nat} {W : World} (h : HeldS w a P n g W) : g < W.heap.size := by
  obtain ⟨_, _, _, _, _, _, _, _, l⟩ := h
  exact l
theorem heldS_all {w : World} {a P : Nat} {n : Int} {g : Nat} {W : World} (h : HeldS w a P n g W) : HeldS w a P n g W ∧ W.cell? ⟨w.heap.size, 0, none⟩ = some (.int .u64 (hi a : Nat)) ∧ W.cell? ⟨w.heap.size, 1, none⟩ = some (.int .u64 (lo a : Nat)) := ⟨h, h.1.2.2.1, h.1.2.2.2⟩
def HeldT (w : World) (a P : Nat) (n : Int) (g g2 l : Nat) (W : World) : Prop := HeldS w a P n g W ∧ Two g2 l W
theorem HeldT.step2 {w : World} {a P : Nat} {n : Int} {g g2 l : Nat} {W w2 : World} (hb : Below W.heap.size W w2) (h : HeldT w a P n g g2 l W) : HeldT w a P n g g2 l w2 := ⟨h.1.step hb, h.2.step hb⟩
theorem heldT_all {w : World} {a P : Nat} {n : Int} {g g2 l : Nat} {W : World} (h : HeldT w a P n g g2 l W) : HeldT w a P n g g2 l W ∧ W.cell? ⟨w.heap.size, 0, none⟩ = some (.int .u64 (hi a : Nat)) ∧ W.cell? ⟨w.heap.size, 1, none⟩ = some (.int .u64 (lo a : Nat)) ∧
    W.cell? ⟨g, 0, none⟩ = some (.int .u64 (hi P : Nat)) ∧ W.cell? ⟨g, 1, none⟩ = some (.int .u64 (lo P : Nat)) ∧ W.cell? ⟨g2, 0, none⟩ = some (.int .u64 (hi l : Nat)) ∧ W.cell? ⟨g2, 1, none⟩ = some (.int .u64 (lo l : Nat)) :=
  ⟨h, h.1.1.2.2.1, h.1.1.2.2.2, h.1.2.2.1, h.1.2.2.2.1, h.2.1, h.2.2.1⟩

set_option maxRecDepth 100000 in
set_option maxHeartbeats 4000000 in
theorem shifts_near {a : Nat} (ha : Fits a) (x y : Int) (x0 : 0 ≤ x) (x1 : x ≤ 255) (y0 : 0 ≤ y) (y1 : y ≤ 255) (hx : x ≤ 128) (w : World) : Calls Try.prog 9 #[A a, .int .u8 x, .int .u8 y] w (Gives (.bool true) w) := by
  have hw : IntKind.i64.wrap (x + y) = x + y := IntWalk.i64_in _ ⟨by omega, by omega⟩
  have hv : IntKind.i64.wrap (128 - x) = 128 - x := IntWalk.i64_in _ ⟨by omega, by omega⟩
  have g1 : upS (upS a x.toNat) y.toNat = upS a (IntKind.i64.wrap (x + y)).toNat := by rw [up_twice, hw]; congr 1; omega
  have g2 : downS (downS a x.toNat) y.toNat = downS a (IntKind.i64.wrap (x + y)).toNat := by rw [down_twice, hw]; congr 1; omega
  have ix : I63 x := by unfold I63; omega
  have iy : I63 y := by unfold I63; omega
  have ixy : I63 (IntKind.i64.wrap (x + y)) := by rw [hw]; unfold I63; omega
  have iv : I63 (IntKind.i64.wrap (128 - x)) := by rw [hv]; unfold I63; omega
  have fu := fits_upS a x.toNat
  have fd := fits_downS ha x.toNat
  have fv := fits_downS ha (IntKind.i64.wrap (128 - x)).toNat
  have fw := fits_upS (downS a (IntKind.i64.wrap (128 - x)).toNat) (IntKind.i64.wrap (128 - x)).toNat
  have ho : okN (128 - x) = true := by unfold okN; simp; omega
  have hc : clipN (128 - x) = 128 - x := clipN_ok ho
  obtain ⟨P, hP⟩ : ∃ P, P = clipS a (128 - x).toNat := ⟨_, rfl⟩
  have hcA : clipA a (128 - x) = P := by unfold clipA; rw [ho, hP]; rfl
  have sp : upS (downS a x.toNat) x.toNat = P := by rw [down_up ha _ (by omega), hP]; congr 1; omega
  obtain ⟨l, hl⟩ : ∃ l, l = downS (upS a x.toNat) x.toNat := ⟨_, rfl⟩
  have su : downS (upS a x.toNat) x.toNat = l := hl.symm
  have sl : subS a (upS (downS a (IntKind.i64.wrap (128 - x)).toNat) (IntKind.i64.wrap (128 - x)).toNat) = l := by
    rw [hv, show (128 - x).toNat = 128 - x.toNat by omega, low_sub ha x.toNat (by omega), hl]
  clear hP hl hw hv
  go_enter Try.func9, Try.ntmps9
  go_wp2_with fail
  refine (awake_any _).mono ?_
  rintro e w1 ⟨rfl, hb1⟩
  have HH0 : HeldA w a w1 := HeldA.step2 hb1 ⟨(Below.refl _ _).alloc (Nat.le_refl _) _, by simp, by simp, by simp⟩
  obtain ⟨_, a0, a1, a2⟩ := id HH0
  go_wp2_with fail
  go_region_held3 (fun W => HeldA w a W ∧ W.cell? ⟨w.heap.size, 0, none⟩ = some (.int .u64 (hi a : Nat)) ∧ W.cell? ⟨w.heap.size, 1, none⟩ = some (.int .u64 (lo a : Nat)))
    (first
      | exact heldA_all (HeldA.drew HH0)
      | (go_split_ands; refine heldA_all (HeldA.step2 hbx ?_); assumption))
    (first
      | (go_at_call 21; refine (up_any (by first | exact ha | exact fu) _ (by first | exact ix | exact iy | exact ixy) _).mono ?_; rintro e wx ⟨rfl, hbx⟩)
      | (go_at_call 23; refine (down_any (by first | exact ha | exact fd) _ (by first | exact ix | exact iy | exact ixy) _).mono ?_; rintro e wx ⟨rfl, hbx⟩))
  rename_i hF
  obtain ⟨HF, _⟩ := hF
  clear a0 a1 a2 HH0 hb1
  obtain ⟨HB, a0, a1, a2⟩ := HF
  go_wp2_with fail
  refine (clip_any ha (128 - x) _).mono ?_
  rintro e v ⟨rfl, hbv⟩
  obtain ⟨hcv, hfv⟩ := bcell hbv
  have hzv := hbv.size
  have zv0 : w.heap.size < v.heap.size := by omega
  go_wp2_with fail
  have HS0 : HeldS w a P (128 - x) v.heap.size (v.alloc (.cells #[.int .u64 (hi P : Nat), .int .u64 (lo P : Nat), .int .i64 (128 - x)] 36)) := ⟨HeldA.step2 (below_alloc _ _) (HeldA.step2 hbv ⟨HB, a0, a1, a2⟩), zv0, three_new _ _ _ _ _⟩
  generalize hg : v.heap.size = g at *
  generalize v.alloc (.cells #[.int .u64 (hi P : Nat), .int .u64 (lo P : Nat), .int .i64 (128 - x)] 36) = V at *
  clear hcv hfv hg hbv HB a0 a1 a2
  obtain ⟨_, e0, e1⟩ := heldS_all HS0
  have zV := HS0.1.1.size
  go_cut [11] from 65 to 75 (fun s W => ∃ g2, s = .pointer (some ⟨g2, 0, none⟩) ∧ HeldT w a P (128 - x) g g2 l W)
  case first =>
    go_region_held3 (fun W => HeldS w a P (128 - x) g W ∧ W.cell? ⟨w.heap.size, 0, none⟩ = some (.int .u64 (hi a : Nat)) ∧ W.cell? ⟨w.heap.size, 1, none⟩ = some (.int .u64 (lo a : Nat)))
      (first
        | (refine heldS_all ?_; (first | exact HS0.drew | exact HS0.drew.alloc _ | exact (HS0.alloc _).drew))
        | (refine heldS_all ?_; (refine HeldS.step ?_ hb2; (first | exact HS0.drew | exact HS0.drew.alloc _ | exact (HS0.alloc _).drew)))
        | (refine heldS_all (HeldS.alloc ?_ _); (refine HeldS.step ?_ hb2; (first | exact HS0.drew | exact HS0.drew.alloc _ | exact (HS0.alloc _).drew)))
        | (refine heldS_all ?_; (refine HeldS.step ?_ hb3; first | (refine HeldS.step ?_ hb2; (first | exact HS0.drew | exact HS0.drew.alloc _ | exact (HS0.alloc _).drew)) | (refine HeldS.alloc ?_ _; (refine HeldS.step ?_ hb2; (first | exact HS0.drew | exact HS0.drew.alloc _ | exact (HS0.alloc _).drew)))))
        | (refine heldS_all (HeldS.alloc ?_ _); (refine HeldS.step ?_ hb3; first | (refine HeldS.step ?_ hb2; (first | exact HS0.drew | exact HS0.drew.alloc _ | exact (HS0.alloc _).drew)) | (refine HeldS.alloc ?_ _; (refine HeldS.step ?_ hb2; (first | exact HS0.drew | exact HS0.drew.alloc _ | exact (HS0.alloc _).drew)))))
        | (refine heldS_all ?_; (refine HeldS.step ?_ hb4; first | (refine HeldS.step ?_ hb3; first | (refine HeldS.step ?_ hb2; (first | exact HS0.drew | exact HS0.drew.alloc _ | exact (HS0.alloc _).drew)) | (refine HeldS.alloc ?_ _; (refine HeldS.step ?_ hb2; (first | exact HS0.drew | exact HS0.drew.alloc _ | exact (HS0.alloc _).drew)))) | (refine HeldS.alloc ?_ _; (refine HeldS.step ?_ hb3; first | (refine HeldS.step ?_ hb2; (first | exact HS0.drew | exact HS0.drew.alloc _ | exact (HS0.alloc _).drew)) | (refine HeldS.alloc ?_ _; (refine HeldS.step ?_ hb2; (first | exact HS0.drew | exact HS0.drew.alloc _ | exact (HS0.alloc _).drew)))))))
        | (refine heldS_all (HeldS.alloc ?_ _); (refine HeldS.step ?_ hb4; first | (refine HeldS.step ?_ hb3; first | (refine HeldS.step ?_ hb2; (first | exact HS0.drew | exact HS0.drew.alloc _ | exact (HS0.alloc _).drew)) | (refine HeldS.alloc ?_ _; (refine HeldS.step ?_ hb2; (first | exact HS0.drew | exact HS0.drew.alloc _ | exact (HS0.alloc _).drew)))) | (refine HeldS.alloc ?_ _; (refine HeldS.step ?_ hb3; first | (refine HeldS.step ?_ hb2; (first | exact HS0.drew | exact HS0.drew.alloc _ | exact (HS0.alloc _).drew)) | (refine HeldS.alloc ?_ _; (refine HeldS.step ?_ hb2; (first | exact HS0.drew | exact HS0.drew.alloc _ | exact (HS0.alloc _).drew)))))))
        | (refine heldS_all (HeldS.set (HeldS.set ?_ ?_ _) ?_ _); (refine HeldS.step ?_ hb4; first | (refine HeldS.step ?_ hb3; first | (refine HeldS.step ?_ hb2; (first | exact HS0.drew | exact HS0.drew.alloc _ | exact (HS0.alloc _).drew)) | (refine HeldS.alloc ?_ _; (refine HeldS.step ?_ hb2; (first | exact HS0.drew | exact HS0.drew.alloc _ | exact (HS0.alloc _).drew)))) | (refine HeldS.alloc ?_ _; (refine HeldS.step ?_ hb3; first | (refine HeldS.step ?_ hb2; (first | exact HS0.drew | exact HS0.drew.alloc _ | exact (HS0.alloc _).drew)) | (refine HeldS.alloc ?_ _; (refine HeldS.step ?_ hb2; (first | exact HS0.drew | exact HS0.drew.alloc _ | exact (HS0.alloc _).drew)))))); all_goals (have z2 := hb2.size; have z3 := hb3.size; (try simp at z2); (try simp at z3); have zg := heldS_lt HS0; dsimp only; omega)))
      (first
        | (go_at_call 23; refine (down_any ha _ iv _).mono ?_; rintro e w2 ⟨rfl, hb2⟩; (first | (refine both (fresh_b hb2) ?_; intro fr2) | (refine both (fresh_a hb2) ?_; intro fr2) | skip))
        | (go_at_call 21; refine (up_any fv _ iv _).mono ?_; rintro e w3 ⟨rfl, hb3⟩; (first | (refine both (Fresh.step fr2 hb3) ?_; intro fr3) | (refine both (fresh_a hb3) ?_; intro fr3) | skip))
        | (go_at_call 13; refine (sub_any ha fw _).mono ?_; rintro e w4 ⟨rfl, hb4⟩; (first | (refine both (Fresh.step fr3 hb4) ?_; rintro ⟨q1, q2, q3, q4, q5⟩) | (refine both (fresh_a hb4) ?_; rintro ⟨q1, q2, q3, q4, q5⟩) | skip)))
    all_goals
      rename_i hF
      obtain ⟨HF, _⟩ := hF
      go_wp2_with fail
      go_meet
      refine ⟨_, rfl, HF, ?_⟩
      unfold Two
      simp [go_sem, *]
  case rest =>
    obtain ⟨g2, rfl, HT⟩ := hcut
    obtain ⟨_, i0, i1, i2, i3, i4, i5⟩ := heldT_all HT
    clear HS0 e0 e1 zV
    go_wp2_with fail
    go_region_held3 (fun W => HeldT w a P (128 - x) g g2 l W ∧ W.cell? ⟨w.heap.size, 0, none⟩ = some (.int .u64 (hi a : Nat)) ∧ W.cell? ⟨w.heap.size, 1, none⟩ = some (.int .u64 (lo a : Nat)) ∧
        W.cell? ⟨g, 0, none⟩ = some (.int .u64 (hi P : Nat)) ∧ W.cell? ⟨g, 1, none⟩ = some (.int .u64 (lo P : Nat)) ∧ W.cell? ⟨g2, 0, none⟩ = some (.int .u64 (hi l : Nat)) ∧ W.cell? ⟨g2, 1, none⟩ = some (.int .u64 (lo l : Nat)))
      (first
        | exact heldT_all (HeldT.step2 (below_drew _) HT)
        | (go_split_ands; refine heldT_all (HeldT.step2 hby ?_); assumption))
      (first
        | (go_at_call 21; refine (up_any (by first | exact ha | exact fd) _ ix _).mono ?_; rintro e wy ⟨rfl, hby⟩)
        | (go_at_call 23; refine (down_any (by first | exact ha | exact fu) _ ix _).mono ?_; rintro e wy ⟨rfl, hby⟩))
    rename_i hF
    obtain ⟨HF, _⟩ := hF
    go_wp2_with fail
    go_ret
    exact ⟨rfl, HF.1.1.1⟩

theorem shifts_any {a : Nat} (ha : Fits a) (x y : Int) (wx : (Lit.int .u8 x).wf = true) (wy : (Lit.int .u8 y).wf = true) (w : World) : Calls Try.prog 9 #[A a, .int .u8 x, .int .u8 y] w (Gives (.bool true) w) := by
  have bx : 0 ≤ x ∧ x ≤ 255 := by simpa [Lit.wf, IntKind.min, IntKind.max, IntKind.signed, IntKind.bits] using wx
  have bz : 0 ≤ y ∧ y ≤ 255 := by simpa [Lit.wf, IntKind.min, IntKind.max, IntKind.signed, IntKind.bits] using wy
  by_cases h : 128 < x
  · exact shifts_far ha x y bx.1 bx.2 bz.1 bz.2 h w
  · exact shifts_near ha x y bx.1 bx.2 bz.1 bz.2 (by omega) w
end Go.Proofs.Ytimlcfklmghdhaa
