/-
  Contract of strconv.FormatUint at base 16: the hexadecimal digits of a number below 65536. Condition: the library's variables hold what is laid.
-/
import Derived.Test.YtmapcllmiomelaaDoorTextH
namespace Go.Proofs.YtmapcllmiomelaaDoor
open Go.RowKit Go.Joins

/-- the hexadecimal digits of n -/
def hexN (n : Nat) : List UInt8 := if n < 16 then [hexd n] else hexN (n / 16) ++ [hexd (n % 16)]
termination_by n
decreasing_by omega
theorem hexN_small {n : Nat} (h : n < 16) : hexN n = [hexd n] := by rw [hexN, if_pos h]
theorem hexN_big {n : Nat} (h : ¬ n < 16) : hexN n = hexN (n / 16) ++ [hexd (n % 16)] := by rw [hexN, if_neg h]

set_option maxHeartbeats 400000 in
theorem tz_any (w : World) (hv : VO w) : Calls Tryd.prog 102 #[.int .u64 16] w (Gives (.int .i64 4) w) := by
  have h := hv.2.2.2.2
  have e0 : IntKind.u64.wrap (bits .and .u64 16 (IntKind.u64.wrap (-16)) * 285870213051353865) / 288230376151711744 = 15 := by decide +kernel
  go_enter Tryd.func102, Tryd.ntmps102
  go_wp2_with go_in
  go_ret
  exact ⟨rfl, Below.refl _ _⟩

/-- a block of 65 bytes -/
def Bytes65 (g : Nat) (row : List UInt8) (W : World) : Prop := row.length = 65 ∧ W.heap[g]? = some (.cells (row.map byteV).toArray 132 (0, 0))
theorem bytes65_new (w : World) : Bytes65 w.heap.size (List.replicate (64 + 1) 0 ++ []) (w.alloc (.cells (Array.replicate 65 (.int .u8 0)) 132)) := by
  refine ⟨by simp, ?_⟩
  rw [heap_alloc_new]
  rfl
theorem Bytes65.cell {g : Nat} {row : List UInt8} {W : World} (h : Bytes65 g row W) (j : Nat) (hj : j < 65) : ∃ u, W.cell? ⟨g, j, none⟩ = some u := by
  have hl := h.1
  rw [cell_of_row W g j _ _ (0, 0) h.2, List.getElem?_toArray, List.getElem?_eq_getElem (by simpa using (by omega : j < row.length))]
  exact ⟨_, rfl⟩
theorem Bytes65.free {g : Nat} {row : List UInt8} {W : World} (h : Bytes65 g row W) (j : Nat) : W.frozen? ⟨g, j, none⟩ = false := frozen_of_row W g j _ _ h.2
theorem Bytes65.put {g : Nat} {row : List UInt8} {W : World} (h : Bytes65 g row W) (j : Nat) (b : UInt8) : Bytes65 g (row.set j b) (W.setCell ⟨g, j, none⟩ (byteV b)) := by
  refine ⟨by rw [List.length_set]; exact h.1, ?_⟩
  rw [heap_setCell_same W g j _ _ (byteV b) h.2, List.map_set]
  simp
theorem Bytes65.step {g : Nat} {row : List UInt8} {W w2 : World} (h : Bytes65 g row W) (hb : Below W.heap.size W w2) : Bytes65 g row w2 := by
  refine ⟨h.1, ?_⟩
  have hlt : g < W.heap.size := by
    rcases Nat.lt_or_ge g W.heap.size with h' | h'
    · exact h'
    · have := h.2; rw [Array.getElem?_eq_none h'] at this; cases this
  rw [hb.block g hlt]; exact h.2
theorem set_front {m : Nat} {suf : List UInt8} {b : UInt8} : (List.replicate (m + 1) 0 ++ suf).set m b = List.replicate m 0 ++ (b :: suf) := by
  rw [List.replicate_succ', List.append_assoc, List.set_append_right _ _ (by simp)]
  simp
theorem hexN_step {n u : Nat} {suf : List UInt8} (h : hexN n = hexN u ++ suf) (hu : ¬ u < 16) : hexN n = hexN (u / 16) ++ (hexd (u % 16) :: suf) := by
  rw [h, hexN_big hu, List.append_assoc]
  rfl
/-- the digits of strconv, as its constant has them -/
abbrev dig36 : ByteArray := ⟨#[48, 49, 50, 51, 52, 53, 54, 55, 56, 57, 97, 98, 99, 100, 101, 102, 103, 104, 105, 106, 107, 108, 109, 110, 111, 112, 113, 114, 115, 116, 117, 118, 119, 120, 121, 122]⟩
theorem dig36_size : dig36.size = 36 := rfl
theorem dig36_at : ∀ i : Fin 16, dig36[i.val]'(by have := i.isLt; rw [dig36_size]; omega) = hexd i.val := by decide +kernel
theorem dig36_get {n m : Nat} (h : n < dig36.size) (e : n = m) (hm : m < 16) : dig36[n] = hexd m := by
  subst e
  exact dig36_at ⟨n, hm⟩
theorem dig_byte {r : Nat} {h : r < dig36.size} (hr : r < 16) : Value.int .u8 ((dig36[r].toNat : Nat) : Int) = byteV (hexd r) := by
  unfold byteV
  rw [dig36_get h rfl hr]
theorem slice65 (g m : Nat) (hm : m < 65) (W : World) : (Instr.sliceAt 132 (.pointer (some ⟨g, 0, none⟩)) (some (.int .i64 (m : Int))) none none).run Tryd.prog W = .ok (.slice (some ⟨g, m, none⟩) (65 - m) (65 - m)) W := by
  have e8 : Tryd.prog.arrayLen 132 = 65 := by kernel_rfl
  have hs : (sizeOf (Tryd.prog.elem 132)).run Tryd.prog W = .ok 1 W := by kernel_rfl
  rw [run_sliceAt_array_l (P := Tryd.prog) W 132 ⟨g, 0, none⟩ (by kernel_rfl) .i64 (m : Int) (by omega) (by rw [e8]; omega), hs]
  simp only [Result.andThen, slicedAt, e8, Int.toNat_natCast]
  rw [if_neg (by omega), Nat.mul_one]
  cases m <;> simp [Addr.add]
theorem conv65 {g m : Nat} {l : List UInt8} {W : World} (hl : m + l.length = 65) (h : Bytes65 g (List.replicate m 0 ++ l) W) : (convert 67 9 (.slice (some ⟨g, m, none⟩) (65 - m) (65 - m))).run Tryd.prog W = .ok (St l) W := by
  have e : 65 - m = l.length := by omega
  rw [e]
  refine run_convert_bytes_back (P := Tryd.prog) W 67 9 5 ⟨g, m, none⟩ l.length l Tryd.underlying67 Tryd.underlying5 Tryd.underlying9 (fun j hj => ?_)
  have ha : (⟨g, m, none⟩ : Go.Addr).add j = ⟨g, m + j, none⟩ := by cases j <;> simp [Addr.add]
  rw [ha, cell_of_row W g (m + j) _ _ (0, 0) h.2, List.getElem?_toArray, List.getElem?_map, List.getElem?_append_right (by simp), List.length_replicate, show m + j - m = j by omega, List.getElem?_eq_getElem hj]
  rfl
theorem and15_64 {x : Nat} (h : x < 65536) : bits .and .u64 (x : Int) 15 = ((x % 16 : Nat) : Int) := by
  rw [show (15 : Int) = ((15 : Nat) : Int) from rfl, u64_and_nat _ _ (by omega) (by omega)]
  congr 1
  exact Nat.and_two_pow_sub_one_eq_mod x 4

set_option maxRecDepth 100000 in
set_option maxHeartbeats 1000000 in
theorem bits16_any (n : Nat) (hn : n < 65536) (w : World) (hv : VO w) :
    Calls Tryd.prog 93 #[.slice none 0 0, .int .u64 (n : Nat), .int .i64 16, .bool false, .bool false] w (Gives (.tuple #[.slice none 0 0, St (hexN n)]) w) := by
  go_enter Tryd.func93, Tryd.ntmps93
  go_wp2_with (first | (go_at_call 102; refine (tz_any _ (VO.step (below_alloc _ _) hv)).mono ?_; rintro e w1 ⟨rfl, hb1⟩) | go_in)
  have hb1' := chain (below_alloc w _) hb1
  have B1 : Bytes65 w.heap.size (List.replicate (64 + 1) 0 ++ []) w1 := (bytes65_new w).step hb1
  clear hb1
  go_loopw [1, 13] (fun uv i wr => ∃ (m u : Nat) (suf : List UInt8), m + 1 + suf.length = 65 ∧ suf.length ≤ 3 ∧ i = .int .i64 ((m : Nat) + 1) ∧ uv = .int .u64 (u : Nat) ∧ Hid (u < 16 ^ (4 - suf.length)) ∧ Hid (hexN n = hexN u ++ suf) ∧ Below w.heap.size w wr ∧ Bytes65 w.heap.size (List.replicate (m + 1) 0 ++ suf) wr) (fun uv _ _ => (intOf uv).toNat)
  case atStart => exact ⟨64, n, [], by simp, by simp, rfl, rfl, hide (by simpa using hn), hide (by simp), hb1', B1⟩
  case round =>
    clear hb1' B1
    obtain ⟨m, u, suf, hm, hl, rfl, rfl, HU, E, hb, HB⟩ := hrel
    have u6 : u < 65536 := Nat.lt_of_lt_of_le HU.out (Nat.le_trans (Nat.pow_le_pow_right (by omega) (show 4 - suf.length ≤ 4 by omega)) (by omega))
    have m65 : m < 65 := by omega
    obtain ⟨cz, CZ⟩ := HB.cell m m65
    have FZ := HB.free m
    by_cases hlt : 16 ≤ u
    · have hk3 : suf.length < 3 := by
        rcases Nat.lt_or_ge suf.length 3 with h | h
        · exact h
        · have := HU.out; rw [show suf.length = 3 by omega] at this; omega
      obtain ⟨m', rfl⟩ : ∃ m', m = m' + 1 := ⟨m - 1, by omega⟩
      have F := hide (hexN_step E.out (by omega))
      have A := and15_64 u6
      obtain ⟨r, hr⟩ : ∃ r, r = u % 16 := ⟨_, rfl⟩
      rw [← hr] at A F
      have r16 : r < 16 := by omega
      have U2 := hide (show u / 16 < 16 ^ (4 - (hexd r :: suf).length) by
        have := HU.out
        rw [show 4 - suf.length = (4 - (hexd r :: suf).length) + 1 by simp; omega, Nat.pow_succ] at this
        omega)
      have HR := hide hr
      have P := hide (fun (W : World) (h : Bytes65 w.heap.size (List.replicate (m' + 1 + 1) 0 ++ suf) W) => h.put (m' + 1) (hexd r))
      clear hr
      go_wp2
      go_roundw
      case rel =>
        refine ⟨m', u / 16, hexd r :: suf, by simp; omega, by simp; omega, rfl, by go_num, U2, F, hb.setCell (by dsimp only; omega) _, ?_⟩
        have := P.out wr HB
        rw [set_front] at this
        rw [dig_byte r16]
        exact this
      case measure => simp [intOf]; omega
    · have u16 : u < 16 := by omega
      have L := hide (show hexN n = hexd u :: suf by rw [E.out, hexN_small u16]; rfl)
      have S := slice65 w.heap.size m m65
      have P := hide (HB.put m (hexd u))
      rw [set_front, ← dig_byte (h := by rw [dig36_size]; omega) u16] at P
      have CV := conv65 (by simp; omega) P.out
      clear P
      go_wp2
      go_ret2
      exact ⟨congrArg Ending.returned (tup2 rfl (by rw [L.out]; rfl)), hb.setCell (by dsimp only; omega) _⟩
end Go.Proofs.YtmapcllmiomelaaDoor
