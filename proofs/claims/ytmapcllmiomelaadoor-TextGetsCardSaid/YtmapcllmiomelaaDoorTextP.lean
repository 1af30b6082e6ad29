/-
  Contract of Put4: the text of a number of 32 bits, four numbers with dots between them. Condition: the library's variables hold what is laid.
-/
import Derived.Test.YtmapcllmiomelaaDoorTextG
namespace Go.Proofs.YtmapcllmiomelaaDoor
open Go.RowKit Go.Joins

/-- byte k of n, 0 the highest, as a text -/
def oct (n k : Nat) : List UInt8 := Lib.itoa ((n / 2 ^ (24 - 8 * k) % 256 : Nat) : Int)
def octs (n : Nat) : List ByteArray := [⟨(oct n 0).toArray⟩, ⟨(oct n 1).toArray⟩, ⟨(oct n 2).toArray⟩, ⟨(oct n 3).toArray⟩]
def put4 (n : Nat) : List UInt8 := Lib.join [oct n 0, oct n 1, oct n 2, oct n 3] [46]
def cell4 (n k j : Nat) : Value := .string (if j < k then ⟨(oct n j).toArray⟩ else ByteArray.empty)
def P4 (g n k : Nat) (W : World) : Prop := g < W.heap.size ∧ ∀ j, j < 4 → W.cell? ⟨g, j, none⟩ = some (cell4 n k j) ∧ W.frozen? ⟨g, j, none⟩ = false
theorem P4.step {g n k : Nat} {W w2 : World} (h : P4 g n k W) (hb : Below W.heap.size W w2) : P4 g n k w2 :=
  ⟨Nat.lt_of_lt_of_le h.1 hb.size, fun j hj => ⟨keep_cell hb (h.2 j hj).1, keep_free hb h.1 (h.2 j hj).2⟩⟩
theorem P4.put {g n k : Nat} {W : World} (h : P4 g n k W) (hk : k < 4) : P4 g n (k + 1) (W.setCell ⟨g, k, none⟩ (.string ⟨(oct n k).toArray⟩)) := by
  refine ⟨by simp; exact h.1, fun j hj => ?_⟩
  obtain ⟨c, f⟩ := h.2 j hj
  obtain ⟨c', f'⟩ := h.2 k hk
  by_cases e : j = k
  · subst e
    constructor
    · unfold cell4
      rw [if_pos (by omega)]
      simp [go_sem, *]
    · simp [go_sem, *]
  · constructor
    · have : cell4 n (k + 1) j = cell4 n k j := by
        unfold cell4
        by_cases l : j < k
        · rw [if_pos l, if_pos (by omega)]
        · rw [if_neg l, if_neg (by omega)]
      rw [this]
      simp [go_sem, *]
    · simp [go_sem, *]
theorem p4_new (w : World) (n : Nat) (t : TypeId) : P4 w.heap.size n 0 (w.alloc (.cells #[.string ByteArray.empty, .string ByteArray.empty, .string ByteArray.empty, .string ByteArray.empty] t)) := by
  refine ⟨by simp, fun j hj => ?_⟩
  have : j = 0 ∨ j = 1 ∨ j = 2 ∨ j = 3 := by omega
  rcases this with rfl | rfl | rfl | rfl <;> simp [go_sem, cell4]
theorem p4_row {g n : Nat} {W : World} (h : P4 g n 4 W) : Row g (octs n) W := by
  intro j x hj
  have hlt : j < 4 := (List.getElem?_eq_some_iff.1 hj).1
  have := (h.2 j hlt).1
  rw [this]
  unfold cell4
  rw [if_pos hlt]
  have : j = 0 ∨ j = 1 ∨ j = 2 ∨ j = 3 := by omega
  rcases this with rfl | rfl | rfl | rfl <;> (simp [octs] at hj; rw [← hj])

theorem nDigits_le {u k : Nat} (h : u < 10 ^ k) (hk : 0 < k) : Lib.nDigits u ≤ k := by
  induction k generalizing u with
  | zero => omega
  | succ k ih =>
    by_cases hu : u < 10
    · rw [Lib.nDigits_small hu]; omega
    · rw [Lib.nDigits_big hu]
      rcases Nat.eq_zero_or_pos k with rfl | hp
      · omega
      · have := ih (u := u / 10) (by rw [Nat.pow_succ] at h; omega) hp
        omega
theorem oct_short (n k : Nat) : (oct n k).length ≤ 3 := by
  unfold oct Lib.itoa
  rw [if_neg (by omega), Int.toNat_natCast, Lib.decDigits_length]
  exact nDigits_le (by omega) (by omega)
theorem put4_short (n : Nat) : (put4 n).length ≤ 15 := by
  unfold put4
  rw [Lib.join_length]
  have h0 := oct_short n 0
  have h1 := oct_short n 1
  have h2 := oct_short n 2
  have h3 := oct_short n 3
  simp [Lib.lens]
  omega
theorem octs_map (n : Nat) : (octs n).map (·.data.toList) = [oct n 0, oct n 1, oct n 2, oct n 3] := rfl
theorem join_octs (n : Nat) (g : Nat) (w : World) (hg : g < w.heap.size) (h : Row g (octs n) w) :
    Calls Tryd.prog 38 #[.slice (some ⟨g, 0, none⟩) 4 4, .string ⟨#[46]⟩] w (Gives (St (put4 n)) w) := by
  have := Tryd.strings_Join g 0 4 (octs n) ⟨#[46]⟩ w (fun j x hj => by rw [Nat.zero_add]; exact h j x hj) hg (by simp [octs]) (by simp [octs]) (by rw [octs_map]; exact Nat.le_trans (put4_short n) (by omega))
  rw [octs_map] at this
  exact this

theorem oct_top {m : Nat} (h : m < 4294967296) : m / 16777216 < 256 := by omega
theorem oct_at {n k m : Nat} (hk : k < 4) (hm : m = n * 256 ^ k % 4294967296) : m / 16777216 = n / 2 ^ (24 - 8 * k) % 256 := by
  subst hm
  have : k = 0 ∨ k = 1 ∨ k = 2 ∨ k = 3 := by omega
  rcases this with rfl | rfl | rfl | rfl <;> simp <;> omega
theorem oct_next {n k m : Nat} (hm : m = n * 256 ^ k % 4294967296) : m * 256 % 4294967296 = n * 256 ^ (k + 1) % 4294967296 := by
  rw [hm, Nat.pow_succ, ← Nat.mul_assoc, Nat.mod_mul_mod]

set_option maxRecDepth 100000 in
set_option maxHeartbeats 1000000 in
theorem put4_any (n : Nat) (hn : n < 4294967296) (w : World) (hv : VO w) :
    Calls Tryd.prog 20 #[.int .u32 (n : Nat)] w (Gives (St (put4 n)) w) := by
  go_enter Tryd.func20, Tryd.ntmps20
  go_wp2_with fail
  go_loopw [0, 5] (fun nv i wr => ∃ k m : Nat, k ≤ 4 ∧ i = .int .i64 (k : Nat) ∧ nv = .int .u32 (m : Nat) ∧ Hid (m = n * 256 ^ k % 4294967296) ∧ Below w.heap.size w wr ∧ P4 w.heap.size n k wr) (fun _ i _ => 4 - (intOf i).toNat)
  case atStart => exact ⟨0, n, by omega, rfl, rfl, hide (by omega), below_alloc _ _, p4_new _ _ _⟩
  case round =>
    obtain ⟨k, m, hk, rfl, rfl, E, HB, HP⟩ := hrel
    by_cases hlt : k < 4
    · have hm : m < 4294967296 := by have := E.out; omega
      have O := hide (oct_at hlt E.out)
      have N := hide (num_any ((m : Int) / 16777216) (by omega) (by omega))
      have R := hide (oct_next E.out)
      have T := hide (show Lib.itoa ((m : Int) / 16777216) = oct n k by unfold oct; rw [← O.out, Int.natCast_ediv]; rfl)
      go_wp2_with fail
      refine (N.out _ (VO.step HB hv)).mono ?_
      rintro e w2 ⟨rfl, hb2⟩
      rw [T.out]
      have HQ := HP.step hb2
      obtain ⟨hc, hf⟩ := HQ.2 k hlt
      have hg := HQ.1
      go_wp2
      go_roundw
      case rel => exact ⟨k + 1, m * 256 % 4294967296, by omega, by go_num, by go_num, R, (chain HB hb2).setCell (by dsimp only; omega) _, HQ.put hlt⟩
      case measure => simp [intOf]; omega
    · have e : k = 4 := by omega
      subst e
      go_wp2_with fail
      refine (join_octs n w.heap.size _ HP.1 (p4_row HP)).mono ?_
      rintro e w2 ⟨rfl, hb2⟩
      go_wp2
      go_ret
      exact ⟨rfl, chain HB hb2⟩
end Go.Proofs.YtmapcllmiomelaaDoor
