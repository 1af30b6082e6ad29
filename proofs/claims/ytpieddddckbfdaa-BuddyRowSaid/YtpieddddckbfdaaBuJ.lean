/-
  Contracts of the law's own same, block and awake. Conditions: the words are words of 64 bits, an int is an int of 64 bits; at most 1000000 prefixes in a list.
-/
import Derived.Test.YtpieddddckbfdaaBuZ
namespace Go.Proofs.Ytpieddddckbfdaa
open Go.RowKit Go.Joins

/-- two lists that are compared -/
def HQ2 (w : World) (va vb : Value) (l m : List Bk) (W : World) : Prop := Below w.heap.size w W ∧ Lst va l W ∧ Lst vb m W
theorem HQ2.step {w : World} {va vb : Value} {l m : List Bk} {W w2 : World} (h : HQ2 w va vb l m W) (hb : Below W.heap.size W w2) : HQ2 w va vb l m w2 := ⟨h.1.trans (hb.mono h.1.size), h.2.1.step hb, h.2.2.step hb⟩
theorem HQ2.drew {w : World} {va vb : Value} {l m : List Bk} {W : World} (h : HQ2 w va vb l m W) : HQ2 w va vb l m { W with drawn := W.drawn + 1 } := h.step (Below.refl _ _).drew
theorem take_same {l m : List Bk} {k : Nat} {x : Bk} (h : l.take k = m.take k) (hx : l[k]? = some x) (hy : m[k]? = some x) : l.take (k + 1) = m.take (k + 1) := by
  rw [List.take_add_one, List.take_add_one, h, hx, hy]
set_option maxRecDepth 100000 in
set_option maxHeartbeats 1000000 in
theorem same_any {va vb : Value} {l m : List Bk} (hl : l.length ≤ 1000000) (w : World) (ha : Lst va l w) (hb : Lst vb m w) :
    Calls Try.prog 14 #[va, vb] w (Gives (.bool (decide (l = m))) w) := by
  have HN : HQ2 w va vb l m w := ⟨Below.refl _ _, ha, hb⟩
  obtain ⟨p, c, rfl⟩ := lst_len ha
  obtain ⟨q, d, rfl⟩ := lst_len hb
  clear ha hb
  by_cases hlen : l.length = m.length
  · have HL := hide hlen
    have E : ((l.length : Int) != (m.length : Int)) = false := by rw [hlen]; simp
    clear hlen
    go_enter Try.func14, Try.ntmps14
    go_wp2
    go_loopw [5] (fun i wr => ∃ k : Nat, k ≤ l.length ∧ i = .int .i64 (k : Nat) ∧ HQ2 w (.slice p l.length c) (.slice q m.length d) l m wr ∧ l.take k = m.take k) (fun i _ => l.length - (intOf i).toNat)
    case atStart => exact ⟨0, Nat.zero_le _, rfl, HN, by simp⟩
    case round =>
      obtain ⟨k, hk, rfl, HH, he⟩ := hrel
      have HE := hide he
      clear he E HN
      by_cases hlt : k < l.length
      · obtain ⟨x, hx⟩ := get_some hlt
        have hlm : k < m.length := by have := HL.out; omega
        obtain ⟨y, hy⟩ := get_some hlm
        obtain ⟨b, o, rfl, _⟩ := lst_at HH.2.1 hx
        obtain ⟨b2, o2, rfl, _⟩ := lst_at HH.2.2 hy
        have RX := hide (fun W (H : HQ2 w (.slice (some ⟨b, o, none⟩) l.length c) (.slice (some ⟨b2, o2, none⟩) m.length d) l m W) => lst_at H.2.1 hx)
        have RY := hide (fun W (H : HQ2 w (.slice (some ⟨b, o, none⟩) l.length c) (.slice (some ⟨b2, o2, none⟩) m.length d) l m W) => lst_at H.2.2 hy)
        have NE := fun W => neq_run x y W
        by_cases hxy : x = y
        · have TK := hide (take_same HE.out hx (hxy ▸ hy))
          rw [decide_eq_true hxy] at NE
          clear hx hy hxy
          go_wp2_with fail
          refine wp_region_quiet (C := HQ2 w (.slice (some ⟨b, o, none⟩) l.length c) (.slice (some ⟨b2, o2, none⟩) m.length d) l m) (by kernel_rfl) (by kernel_rfl) HH.drew (wpQuiet_step (fun K0 hK0 => ?_))
          go_simp
          first | (with_reducible refine hK0 _ (wpQuiet_step (fun K1 hK1 => ?_))) | (with_reducible refine ⟨_, fun _ _ => rfl, hK0 _ (wpQuiet_step (fun K1 hK1 => ?_))⟩) | (rw [if_neg (by intro e; cases e)]; with_reducible refine hK0 _ (wpQuiet_step (fun K1 hK1 => ?_)))
          clear hK0 K0
          go_simp
          first | (with_reducible refine hK1 _ (wpQuiet_step (fun K0 hK0 => ?_))) | (with_reducible refine ⟨_, fun _ _ => rfl, hK1 _ (wpQuiet_step (fun K0 hK0 => ?_))⟩) | (rw [if_neg (by intro e; cases e)]; with_reducible refine hK1 _ (wpQuiet_step (fun K0 hK0 => ?_)))
          clear hK1 K1
          go_simp
          first | (with_reducible refine hK0 _ (wpQuiet_step (fun K1 hK1 => ?_))) | (with_reducible refine ⟨_, fun _ _ => rfl, hK0 _ (wpQuiet_step (fun K1 hK1 => ?_))⟩) | (rw [if_neg (by intro e; cases e)]; with_reducible refine hK0 _ (wpQuiet_step (fun K1 hK1 => ?_)))
          clear hK0 K0
          go_simp
          refine ⟨Bv x, fun W hW => ?_, hK1 _ (wpQuiet_step (fun K0 hK0 => ?_))⟩
          · ((obtain ⟨_, _, eb, _, u0, u1, u2⟩ := RX.out W hW; cases eb; simp [go_sem, u0, u1, u2]))
          clear hK1 K1
          go_simp
          first | (with_reducible refine hK0 _ (wpQuiet_step (fun K1 hK1 => ?_))) | (with_reducible refine ⟨_, fun _ _ => rfl, hK0 _ (wpQuiet_step (fun K1 hK1 => ?_))⟩) | (rw [if_neg (by intro e; cases e)]; with_reducible refine hK0 _ (wpQuiet_step (fun K1 hK1 => ?_)))
          clear hK0 K0
          go_simp
          first | (with_reducible refine hK1 _ (wpQuiet_step (fun K0 hK0 => ?_))) | (with_reducible refine ⟨_, fun _ _ => rfl, hK1 _ (wpQuiet_step (fun K0 hK0 => ?_))⟩) | (rw [if_neg (by intro e; cases e)]; with_reducible refine hK1 _ (wpQuiet_step (fun K0 hK0 => ?_)))
          clear hK1 K1
          go_simp
          first | (with_reducible refine hK0 _ (wpQuiet_step (fun K1 hK1 => ?_))) | (with_reducible refine ⟨_, fun _ _ => rfl, hK0 _ (wpQuiet_step (fun K1 hK1 => ?_))⟩) | (rw [if_neg (by intro e; cases e)]; with_reducible refine hK0 _ (wpQuiet_step (fun K1 hK1 => ?_)))
          clear hK0 K0
          go_simp
          refine ⟨Bv y, fun W hW => ?_, hK1 _ (wpQuiet_step (fun K0 hK0 => ?_))⟩
          · ((obtain ⟨_, _, eb, _, u0, u1, u2⟩ := RY.out W hW; cases eb; simp [go_sem, u0, u1, u2]))
          clear hK1 K1
          go_simp
          first | (with_reducible refine hK0 _ (wpQuiet_nil ?_)) | (with_reducible refine ⟨_, fun _ _ => rfl, hK0 _ (wpQuiet_nil ?_)⟩) | (rw [if_neg (by intro e; cases e)]; with_reducible refine hK0 _ (wpQuiet_nil ?_))
          clear hK0 K0
          intro w2 H2
          go_wp2
          go_roundw
          case rel => exact ⟨k + 1, hlt, by go_num, H2, TK.out⟩
          case measure => simp [intOf]; omega
        · have NQ := hide (show l ≠ m by intro e; rw [e, hy] at hx; exact hxy (Option.some.inj hx).symm)
          rw [decide_eq_false hxy] at NE
          clear hx hy hxy
          go_wp2_with fail
          refine wp_region_quiet (C := HQ2 w (.slice (some ⟨b, o, none⟩) l.length c) (.slice (some ⟨b2, o2, none⟩) m.length d) l m) (by kernel_rfl) (by kernel_rfl) HH.drew (wpQuiet_step (fun K0 hK0 => ?_))
          go_simp
          first | (with_reducible refine hK0 _ (wpQuiet_step (fun K1 hK1 => ?_))) | (with_reducible refine ⟨_, fun _ _ => rfl, hK0 _ (wpQuiet_step (fun K1 hK1 => ?_))⟩) | (rw [if_neg (by intro e; cases e)]; with_reducible refine hK0 _ (wpQuiet_step (fun K1 hK1 => ?_)))
          clear hK0 K0
          go_simp
          first | (with_reducible refine hK1 _ (wpQuiet_step (fun K0 hK0 => ?_))) | (with_reducible refine ⟨_, fun _ _ => rfl, hK1 _ (wpQuiet_step (fun K0 hK0 => ?_))⟩) | (rw [if_neg (by intro e; cases e)]; with_reducible refine hK1 _ (wpQuiet_step (fun K0 hK0 => ?_)))
          clear hK1 K1
          go_simp
          first | (with_reducible refine hK0 _ (wpQuiet_step (fun K1 hK1 => ?_))) | (with_reducible refine ⟨_, fun _ _ => rfl, hK0 _ (wpQuiet_step (fun K1 hK1 => ?_))⟩) | (rw [if_neg (by intro e; cases e)]; with_reducible refine hK0 _ (wpQuiet_step (fun K1 hK1 => ?_)))
          clear hK0 K0
          go_simp
          refine ⟨Bv x, fun W hW => ?_, hK1 _ (wpQuiet_step (fun K0 hK0 => ?_))⟩
          · ((obtain ⟨_, _, eb, _, u0, u1, u2⟩ := RX.out W hW; cases eb; simp [go_sem, u0, u1, u2]))
          clear hK1 K1
          go_simp
          first | (with_reducible refine hK0 _ (wpQuiet_step (fun K1 hK1 => ?_))) | (with_reducible refine ⟨_, fun _ _ => rfl, hK0 _ (wpQuiet_step (fun K1 hK1 => ?_))⟩) | (rw [if_neg (by intro e; cases e)]; with_reducible refine hK0 _ (wpQuiet_step (fun K1 hK1 => ?_)))
          clear hK0 K0
          go_simp
          first | (with_reducible refine hK1 _ (wpQuiet_step (fun K0 hK0 => ?_))) | (with_reducible refine ⟨_, fun _ _ => rfl, hK1 _ (wpQuiet_step (fun K0 hK0 => ?_))⟩) | (rw [if_neg (by intro e; cases e)]; with_reducible refine hK1 _ (wpQuiet_step (fun K0 hK0 => ?_)))
          clear hK1 K1
          go_simp
          first | (with_reducible refine hK0 _ (wpQuiet_step (fun K1 hK1 => ?_))) | (with_reducible refine ⟨_, fun _ _ => rfl, hK0 _ (wpQuiet_step (fun K1 hK1 => ?_))⟩) | (rw [if_neg (by intro e; cases e)]; with_reducible refine hK0 _ (wpQuiet_step (fun K1 hK1 => ?_)))
          clear hK0 K0
          go_simp
          refine ⟨Bv y, fun W hW => ?_, hK1 _ (wpQuiet_step (fun K0 hK0 => ?_))⟩
          · ((obtain ⟨_, _, eb, _, u0, u1, u2⟩ := RY.out W hW; cases eb; simp [go_sem, u0, u1, u2]))
          clear hK1 K1
          go_simp
          first | (with_reducible refine hK0 _ (wpQuiet_nil ?_)) | (with_reducible refine ⟨_, fun _ _ => rfl, hK0 _ (wpQuiet_nil ?_)⟩) | (rw [if_neg (by intro e; cases e)]; with_reducible refine hK0 _ (wpQuiet_nil ?_))
          clear hK0 K0
          intro w2 H2
          go_wp2
          go_ret
          exact ⟨by rw [decide_eq_false NQ.out]; rfl, H2.1⟩
      · have e : l = m := by
          have h1 := HE.out
          rw [List.take_of_length_le (by omega), List.take_of_length_le (by have := HL.out; omega)] at h1
          exact h1
        have D := hide (decide_eq_true e)
        clear e
        go_wp2
        go_ret
        exact ⟨by rw [D.out]; rfl, HH.1⟩
  · have NE := hide (show l ≠ m by intro e; exact hlen (by rw [e]))
    have E : ((l.length : Int) != (m.length : Int)) = true := by simp; omega
    clear hlen HN
    go_enter Try.func14, Try.ntmps14
    go_wp2
    go_ret
    exact ⟨by rw [decide_eq_false NE.out]; rfl, Below.refl _ _⟩
theorem same_yes {va vb : Value} {l m : List Bk} (e : l = m) (hl : l.length ≤ 1000000) (w : World) (ha : Lst va l w) (hb : Lst vb m w) :
    Calls Try.prog 14 #[va, vb] w (Gives (.bool true) w) :=
  via (same_any hl w ha hb) (by rw [decide_eq_true e])

/-- a block of the documentation's prefix -/
def blk (g : Nat) (n : Int) : Bk := ((2306139568115548160 + g) * 18446744073709551616, n)
theorem blk_words {g : Nat} (_h : g ≤ 65535) (n : Int) : hi (blk g n).1 = 2306139568115548160 + g ∧ lo (blk g n).1 = 0 := by
  unfold blk hi lo
  constructor <;> (simp only; omega)
theorem blk_fit {g : Nat} (_h : g ≤ 65535) {n : Int} (h1 : 0 ≤ n) (h2 : n ≤ 128) : FitB (blk g n) := by
  unfold FitB blk Fits I64
  exact ⟨by simp only; omega, by simp only; omega⟩
set_option maxHeartbeats 400000 in
theorem block_any {g : Nat} (h : g ≤ 65535) (gi : Int) (e : gi = (g : Int)) (n : Int) (w : World) : Calls Try.prog 24 #[.int .u64 gi, .int .i64 n] w (Gives (Bv (blk g n)) w) := by
  obtain ⟨h1, h2⟩ := blk_words h n
  have E := hide (show Bv (blk g n) = .agg #[.int .u64 ((2306139568115548160 + g : Nat) : Int), .int .u64 0, .int .i64 n] by unfold Bv Pv; rw [h1, h2]; rfl)
  subst e
  have W1 : IntKind.u64.wrap (2306139568115548160 + (g : Int)) = 2306139568115548160 + (g : Int) := by rw [IntKind.wrap_u64]; omega
  rw [E.out]
  clear E h1 h2
  go_enter Try.func24, Try.ntmps24
  go_wp2
  have e2 : ((2306139568115548160 + g : Nat) : Int) = 2306139568115548160 + (g : Int) := by omega
  rw [e2]
  refine bodyPost_ret (v := .agg #[.int .u64 (2306139568115548160 + (g : Int)), .int .u64 0, .int .i64 n]) (by simp [results, Try.results24, go_sem]) rfl ⟨rfl, below_alloc _ _⟩
/-! ### what awake asks -/
theorem aw_take : takeL (blk 0 48) [blk 0 48] 50 = ([blk 16384 50, blk 32768 49], blk 0 50, 0) := by decide +kernel
theorem aw_give : giveL (blk 0 48) [blk 16384 50, blk 32768 49] (blk 0 50) = ([blk 0 48], 0) := by decide +kernel
theorem aw_reserve : reserveL (blk 0 48) [blk 0 48] (blk 32768 49) = ([blk 0 49], 0) := by decide +kernel
theorem aw_free : freeL (blk 0 48) [blk 0 50, blk 49152 50] = ([blk 16384 50, blk 32768 50], 0) := by decide +kernel
theorem aw_fits : fitsL [blk 16384 50, blk 32768 50] 50 = true ∧ fitsL [blk 16384 50, blk 32768 50] 49 = false ∧ goodL (blk 0 48) [blk 16384 50, blk 32768 50] = true := by decide +kernel
end Go.Proofs.Ytpieddddckbfdaa
