/-
  Contract of Hex: two digits for each byte. Condition: the text is shorter than 2^32 - 15 bytes.
-/
import Derived.Test.YtmapcllmiomelaaDoorTextV
import Derived.Deep.AppendLies
import Derived.Deep.RegionLaw
import Derived.Laws.IdiomStrings
namespace Go.Proofs.YtmapcllmiomelaaDoor
open Go.RowKit Go.Joins

/-- the sixteen digits -/
def hexd (n : Nat) : UInt8 := if n < 10 then UInt8.ofNat (48 + n) else UInt8.ofNat (87 + n)
def hexL : List UInt8 → List UInt8
  | [] => []
  | b :: r => hexd (b.toNat / 16) :: hexd (b.toNat % 16) :: hexL r
theorem hexL_length (l : List UInt8) : (hexL l).length = 2 * l.length := by
  induction l with
  | nil => rfl
  | cons b r ih => simp only [hexL, List.length_cons, ih]; omega
theorem hexL_append (l r : List UInt8) : hexL (l ++ r) = hexL l ++ hexL r := by
  induction l with
  | nil => rfl
  | cons b t ih => simp only [List.cons_append, hexL, ih]
theorem infoB : (Tryd.prog.info? 5).map (fun i => (i.zero, i.size, i.bytes)) = some (some (.int .u8 0), 1, 1) := by kernel_rfl
def byteV (b : UInt8) : Value := .int .u8 (b.toNat : Int)

theorem conv_own {w : World} {base g n cap : Nat} {l : List UInt8} (h : w.ownsRow base 5 1 (.slice (some ⟨g, 0, none⟩) n cap) n (l.map byteV)) :
    (convert 67 9 (.slice (some ⟨g, 0, none⟩) n cap)).run Tryd.prog w = .ok (St l) w := by
  have hl : n = l.length := by have := h.1; simp at this; omega
  subst hl
  refine run_convert_bytes_back (P := Tryd.prog) w 67 9 5 ⟨g, 0, none⟩ cap l Tryd.underlying67 Tryd.underlying5 Tryd.underlying9 (fun j hj => ?_)
  have := h.cellAt j (by omega)
  have ha : (⟨g, 0, none⟩ : Go.Addr).add j = ⟨g, j, none⟩ := by cases j <;> simp [Addr.add]
  rw [ha, this, List.getElem?_map, List.getElem?_eq_getElem hj]
  rfl
theorem and15_eq {x : Nat} (h : x < 256) : bits .and .u8 (x : Int) 15 = ((x % 16 : Nat) : Int) := by
  rw [show (15 : Int) = ((15 : Nat) : Int) from rfl, u8_and_nat _ _ h (by omega)]
  congr 1
  exact Nat.and_two_pow_sub_one_eq_mod x 4
theorem and15_lo (b : UInt8) : (0 : Int) ≤ bits .and .u8 (b.toNat : Int) 15 := by rw [and15_eq b.toNat_lt]; omega
theorem and15_hi (b : UInt8) : bits .and .u8 (b.toNat : Int) 15 < 16 := by rw [and15_eq b.toNat_lt]; omega
/-- the digits, as the program's constant has them -/
abbrev digs : ByteArray := ⟨#[48, 49, 50, 51, 52, 53, 54, 55, 56, 57, 97, 98, 99, 100, 101, 102]⟩
theorem digs_size : digs.size = 16 := rfl
theorem digs_hi {b : UInt8} : ((b.toNat : Int) / 16).toNat < digs.size := by have := b.toNat_lt; rw [digs_size]; omega
theorem digs_lo {b : UInt8} : (bits .and .u8 (b.toNat : Int) 15).toNat < digs.size := by have := and15_hi b; have := and15_lo b; rw [digs_size]; omega
theorem digs_at : ∀ i : Fin 16, digs[i.val]'(by have := i.isLt; rw [digs_size]; exact this) = hexd i.val := by decide +kernel

/-- the two digits of b as the walk has them -/
def twoV (b : UInt8) : List Value := [.int .u8 ((digs[((b.toNat : Int) / 16).toNat]'digs_hi).toNat : Int), .int .u8 ((digs[(bits .and .u8 (b.toNat : Int) 15).toNat]'digs_lo).toNat : Int)]
theorem two_one (b : UInt8) : ∀ u ∈ twoV b, u.oneCell' = true := by
  intro u hu
  unfold twoV at hu
  simp only [List.mem_cons, List.not_mem_nil, or_false] at hu
  rcases hu with rfl | rfl <;> rfl
theorem two_cells (b : UInt8) (W : World) (t : TypeId) : ∀ j u, (twoV b)[j]? = some u → (W.alloc (.cells #[.int .u8 ((digs[((b.toNat : Int) / 16).toNat]'digs_hi).toNat : Int), .int .u8 ((digs[(bits .and .u8 (b.toNat : Int) 15).toNat]'digs_lo).toNat : Int)] t)).drew.cell? ((⟨W.heap.size, 0, none⟩ : Go.Addr).add j) = some u := by
  intro j u hj
  match j, hj with
  | 0, hj => simp [twoV] at hj; subst hj; simp [Addr.add, go_sem]
  | 1, hj => simp [twoV] at hj; subst hj; simp [Addr.add, go_sem]
  | j + 2, hj => simp [twoV] at hj
theorem base_le {w : World} {base g n cap size : Nat} {e : TypeId} {xs : List Value} (h : w.ownsRow base e size (.slice (some ⟨g, 0, none⟩) n cap) n xs) : base ≤ g := by
  rcases h.2 with ⟨h, _⟩ | ⟨g', cap', cur, h, hb, _⟩
  · cases h
  · cases h; exact hb
theorem digs_get {n m : Nat} (h : n < digs.size) (e : n = m) : digs[n] = hexd m := by
  subst e
  exact digs_at ⟨n, h⟩
theorem twoV_eq (b : UInt8) : twoV b = [byteV (hexd (b.toNat / 16)), byteV (hexd (b.toNat % 16))] := by
  unfold twoV byteV
  rw [digs_get digs_hi (show ((b.toNat : Int) / 16).toNat = b.toNat / 16 by omega), digs_get digs_lo (show (bits .and .u8 (b.toNat : Int) 15).toNat = b.toNat % 16 by rw [and15_eq b.toNat_lt]; omega)]
theorem hex_next {s : ByteArray} {k : Nat} (h : k < s.size) : (hexL (s.data.toList.take k)).map byteV ++ twoV s[k] = (hexL (s.data.toList.take (k + 1))).map byteV := by
  have e : s.data.toList.take (k + 1) = s.data.toList.take k ++ [s[k]] := by
    rw [List.take_succ_eq_append_getElem (by simpa using h)]; rfl
  rw [e, hexL_append, List.map_append, twoV_eq]
  rfl

set_option maxRecDepth 100000 in
set_option maxHeartbeats 1000000 in
theorem hex_any (s : ByteArray) (hs : Lim s.size) (w : World) :
    Calls Tryd.prog 22 #[.string s] w (Gives (St (hexL s.data.toList)) w) := by
  obtain ⟨i0, hi, hz0, hz1, hz2⟩ := info_parts infoB
  have hs2 : s.size ≤ 4294967280 := hs
  go_enter Tryd.func22, Tryd.ntmps22
  go_wp2_with (at_make; refine wpList_make_own _ rfl _ _ 67 rfl w.heap.size 5 i0 (.int .u8 0) 1 Tryd.underlying67 hi hz0 hz1 _ _ _ (2 * s.size) rfl rfl (by omega) ?b2 ?b3 (Nat.le_refl _) ?_)
  case b2 => rw [hz2]; omega
  case b3 => unfold maxLen; omega
  intro w0 hown0 hgrow0
  go_wp2_with fail
  go_loopw [3, 11] (fun v i wr => ∃ k g cap : Nat, k ≤ s.size ∧ i = .int .i64 k ∧ v = .slice (some ⟨g, 0, none⟩) (2 * k) cap ∧
      wr.ownsRow w.heap.size 5 1 (.slice (some ⟨g, 0, none⟩) (2 * k) cap) (2 * k) ((hexL (s.data.toList.take k)).map byteV) ∧ Below w.heap.size w wr) (fun _ i _ => s.size - (intOf i).toNat)
  case atStart => exact ⟨0, _, _, Nat.zero_le _, rfl, rfl, hown0, (Below.refl _ _).grown hgrow0 (Nat.le_refl _) (fun k h => by cases h)⟩
  case round =>
    obtain ⟨k, g, cap, hk, rfl, rfl, hown, hb⟩ := hrel
    by_cases hlt : k < s.size
    · have b1 : (s[k].toNat : Int) / 16 < 16 := by have := s[k].toNat_lt; omega
      have b2 : (0 : Int) ≤ (s[k].toNat : Int) / 16 := by omega
      have b3 := and15_lo s[k]
      have b4 := and15_hi s[k]
      go_wp2_with fail
      have HN := hide (hex_next hlt)
      have H0 := hb.size
      go_region_law ((refine step_append_lies _ rfl (.tmp 14) (.tmp 25) 67 rfl w.heap.size 5 i0 (.int .u8 0) 1 1 Tryd.underlying67 hi hz0 hz1 hz2 rfl (by decide) (.slice (some ⟨g, 0, none⟩) (2 * k) cap) (2 * k) ((hexL (s.data.toList.take k)).map byteV) (by simp [Act.eval]) ((hown.alloc _).drew) ⟨wr.heap.size, 0, none⟩ 2 2 (twoV s[k]) (by simp [Act.eval]) rfl (two_cells _ _ _) (two_one _) (by omega) (by unfold maxLen; omega) (by omega) (by simp; omega) (wr.heap.size + 1) (by simp) ?_; intro g2 cap2 w1 hown1 hgrow1 hat hlt2))
      all_goals
        rw [HN.out, show 2 * k + 2 = 2 * (k + 1) by omega] at hown1
        rw [show 2 * k + 2 = 2 * (k + 1) by omega]
        have HB1 := ((hb.alloc hb.size _).drew).grown hgrow1 (by simp; omega) (fun j hj => by cases hj; exact base_le hown)
        clear HN hat hlt2 hgrow1
        go_wp2
        go_roundw
        case rel => exact ⟨k + 1, g2, cap2, by omega, by go_num, rfl, hown1, HB1⟩
        case measure => simp [intOf]; omega
    · have hk2 : k = s.size := by omega
      have CV := conv_own hown
      have e : s.data.toList.take k = s.data.toList := List.take_of_length_le (by rw [hk2]; simp)
      rw [e] at CV
      clear e hk2
      go_wp2
      go_ret
      exact ⟨rfl, hb⟩
end Go.Proofs.YtmapcllmiomelaaDoor
