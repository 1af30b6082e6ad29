/-
  Contract of Get4: the number that a text of four numbers with dots between them is of. Conditions: the library's variables hold what is laid; the text is shorter than 2^32 - 15 bytes.
-/
import Derived.Test.YtmapcllmiomelaaDoorTextV
namespace Go.Proofs.YtmapcllmiomelaaDoor
open Go.RowKit Go.Joins

theorem split_small (sep : ByteArray) : ∀ (k : Nat) (s x : ByteArray), x ∈ Lib.splitB sep 0 k s → x.size ≤ s.size
  | 0, s, x, h => by
    rw [Lib.splitB_zero, List.mem_singleton] at h
    subst h; exact Nat.le_refl _
  | k + 1, s, x, h => by
    unfold Lib.splitB at h
    split at h
    · rw [List.mem_singleton] at h
      subst h; exact Nat.le_refl _
    · rcases List.mem_cons.1 h with h | h
      · subst h
        rw [ByteArray.size_extract]; omega
      · have := split_small sep k _ x h
        rw [ByteArray.size_extract] at this; omega

/-- the pieces between dots, five at most -/
def dots (s : ByteArray) : List ByteArray := Lib.splitB ⟨#[46]⟩ 0 (min 5 (s.size + 1) - 1) s
def fold4 : Nat → List ByteArray → Option Nat
  | acc, [] => some acc
  | acc, p :: r => match gnum p.data.toList with
    | some n => if n ≤ 255 then fold4 (acc * 256 + n) r else none
    | none => none
def get4 (s : ByteArray) : Option Nat := if (dots s).length = 4 then fold4 0 (dots s) else none
def g4V (s : ByteArray) : Nat := match get4 s with | some n => n | none => 0
def g4O (s : ByteArray) : Bool := (get4 s).isSome
theorem get4_none {s : ByteArray} (h : get4 s = none) : g4V s = 0 ∧ g4O s = false := by unfold g4V g4O; rw [h]; exact ⟨rfl, rfl⟩
theorem get4_some {s : ByteArray} {n : Nat} (h : get4 s = some n) : g4V s = n ∧ g4O s = true := by unfold g4V g4O; rw [h]; exact ⟨rfl, rfl⟩

/-- a slice of texts in a block -/
def Row (g : Nat) (ps : List ByteArray) (W : World) : Prop := ∀ (j : Nat) (x : ByteArray), ps[j]? = some x → W.cell? ⟨g, j, none⟩ = some (.string x)
theorem Row.step {g : Nat} {ps : List ByteArray} {W w2 : World} (h : Row g ps W) (hb : Below W.heap.size W w2) : Row g ps w2 := fun j x hj => keep_cell hb (h j x hj)
theorem row_new (w : World) (ps : List ByteArray) (N : Nat) (t : TypeId) : Row w.heap.size ps (w.alloc (.cells (Lib.cellsOf ps N) t)) := by
  intro j x hj
  have hlt : j < ps.length := (List.getElem?_eq_some_iff.1 hj).1
  have : (Lib.cellsOf ps N)[j]? = some (.string x) := by
    unfold Lib.cellsOf
    rw [List.getElem?_toArray, List.getElem?_append_left (by simpa using hlt), List.getElem?_map, hj]
    rfl
  simp [go_sem, this]

theorem split_dots (s : ByteArray) (hs : Lim s.size) (w : World) (hv : VO w) :
    Calls Tryd.prog 26 #[.string s, .string ⟨#[46]⟩, .int .i64 5] w fun e w' =>
      e = .returned (.slice (some ⟨w.heap.size, 0, none⟩) (dots s).length (min 5 (s.size + 1))) ∧ Below w.heap.size w w' ∧ Row w.heap.size (dots s) w' := by
  obtain ⟨⟨m, h1⟩, _⟩ := id hv
  refine (Tryd.strings_SplitN s ⟨#[46]⟩ 5 m w (by unfold Lim at hs; omega) h1 (by decide) (by omega) (by omega)).mono ?_
  rintro e w' ⟨rfl, rfl⟩
  exact ⟨rfl, below_alloc _ _, row_new _ _ _ _⟩
theorem dots_small {s x : ByteArray} (hs : Lim s.size) (h : x ∈ dots s) : Lim x.size := Nat.le_trans (split_small _ _ _ _ h) hs

theorem oct_step {acc n : Nat} (ha : acc < 16777216) (hn : n ≤ 255) : bits .or .u32 ((acc : Int) * 256) (n : Int) = ((acc * 256 + n : Nat) : Int) := by
  rw [show ((acc : Int) * 256) = ((acc * 256 : Nat) : Int) by omega, u32_or_nat _ _ (by omega) (by omega)]
  congr 1
  rw [Nat.mul_comm]
  exact (Nat.two_pow_add_eq_or_of_lt (i := 8) (by omega) acc).symm
set_option maxRecDepth 100000 in
set_option maxHeartbeats 1000000 in
theorem get4_any (s : ByteArray) (hs : Lim s.size) (w : World) (hv : VO w) :
    Calls Tryd.prog 8 #[.string s] w (Gives (.tuple #[.int .u32 (g4V s : Nat), .bool (g4O s)]) w) := by
  have C := hide (split_dots s hs w hv)
  have PS := hide (fun x (h : x ∈ dots s) => dots_small hs h)
  by_cases hl : (dots s).length = 4
  · have D := hide (show get4 s = fold4 0 (dots s) by unfold get4; rw [if_pos hl])
    generalize hd : dots s = ps at *
    have HL := hide hl
    have LL : ((ps.length : Int) != 4) = false := by rw [hl]; rfl
    have L2 : (ps.length : Int) = 4 := by rw [hl]; rfl
    clear hd hl
    go_enter Tryd.func8, Tryd.ntmps8
    go_wp2_with fail
    refine C.out.mono ?_
    rintro e w1 ⟨rfl, hb1, hr1⟩
    go_wp2_with fail
    have st : ∃ (k acc : Nat) (r : List ByteArray), k ≤ 4 ∧ Value.int .i64 0 = .int .i64 (k : Nat) ∧ Value.int .u32 0 = .int .u32 (acc : Nat) ∧ Hid (acc < 256 ^ k) ∧ Hid (ps.drop k = r) ∧ Hid (fold4 acc r = get4 s) ∧ Below w.heap.size w w1 ∧ Row w.heap.size ps w1 :=
      ⟨0, 0, ps, by omega, rfl, rfl, hide (by omega), hide rfl, hide D.out.symm, hb1, hr1⟩
    go_loopw [5, 17] (fun sum i wr => ∃ (k acc : Nat) (r : List ByteArray), k ≤ 4 ∧ i = .int .i64 (k : Nat) ∧ sum = .int .u32 (acc : Nat) ∧ Hid (acc < 256 ^ k) ∧ Hid (ps.drop k = r) ∧ Hid (fold4 acc r = get4 s) ∧ Below w.heap.size w wr ∧ Row w.heap.size ps wr) (fun _ i _ => 4 - (intOf i).toNat)
    case atStart => exact st
    case round =>
      clear st hb1 hr1
      obtain ⟨k, acc, r, hk, rfl, rfl, HA, HR, HF, hb, hr⟩ := hrel
      by_cases hlt : k < 4
      · obtain ⟨x, hx⟩ : ∃ x, ps[k]? = some x := ⟨ps[k]'(by have := HL.out; omega), List.getElem?_eq_getElem _⟩
        have hc := hr k x hx
        have hbx : w.heap.size < wr.heap.size ∨ True := Or.inr trivial
        have HX := hide (PS.out x (List.mem_of_getElem? hx))
        have hrx : r = x :: ps.drop (k + 1) := by rw [← HR.out]; exact List.drop_eq_getElem?_toList_append ▸ by rw [hx]; rfl
        have HQ := hide hrx
        clear hrx hx hbx
        cases hn : gnum x.data.toList with
        | none =>
          have K := hide (gnum_none hn)
          have R := hide (get4_none (show get4 s = none by rw [← HF.out, HQ.out]; unfold fold4; rw [hn]))
          clear hn
          go_wp2_with fail
          refine (getnum_any x HX.out _ (VO.step hb hv)).mono ?_
          rintro e w2 ⟨rfl, hb2⟩
          rw [K.out.1, K.out.2]
          go_wp2
          go_ret2
          exact ⟨congrArg Ending.returned (tup2 (by rw [R.out.1]; rfl) (bool_eq R.out.2.symm)), chain hb hb2⟩
        | some n =>
          have K := hide (gnum_some hn)
          by_cases hg : n ≤ 255
          · have R := hide (show fold4 (acc * 256 + n) (ps.drop (k + 1)) = get4 s by rw [← HF.out, HQ.out]; conv => rhs; unfold fold4; rw [hn]; simp only; rw [if_pos hg])
            have hA : acc < 16777216 := Nat.lt_of_lt_of_le HA.out (Nat.le_trans (Nat.pow_le_pow_right (by omega) (show k ≤ 3 by omega)) (by omega))
            have N := hide (oct_step hA hg)
            have A2 := hide (show acc * 256 + n < 256 ^ (k + 1) by have := HA.out; rw [Nat.pow_succ]; generalize 256 ^ k = p at *; omega)
            have hg' : (n : Int) ≤ 255 := by omega
            clear hn
            go_wp2_with fail
            refine (getnum_any x HX.out _ (VO.step hb hv)).mono ?_
            rintro e w2 ⟨rfl, hb2⟩
            rw [K.out.1, K.out.2]
            go_wp2
            go_roundw
            case rel => exact ⟨k + 1, acc * 256 + n, _, by omega, by go_num, by rw [N.out], A2, hide rfl, R, chain hb hb2, hr.step hb2⟩
            case measure => simp [intOf]; omega
          · have R := hide (get4_none (show get4 s = none by rw [← HF.out, HQ.out]; unfold fold4; rw [hn]; simp only; rw [if_neg hg]))
            have hg' : (255 : Int) < (n : Int) := by omega
            clear hn
            go_wp2_with fail
            refine (getnum_any x HX.out _ (VO.step hb hv)).mono ?_
            rintro e w2 ⟨rfl, hb2⟩
            rw [K.out.1, K.out.2]
            go_wp2
            go_ret2
            exact ⟨congrArg Ending.returned (tup2 (by rw [R.out.1]; rfl) (bool_eq R.out.2.symm)), chain hb hb2⟩
      · have e : k = 4 := by omega
        subst e
        have R := hide (get4_some (show get4 s = some acc by rw [← HF.out, ← HR.out, List.drop_of_length_le (by have := HL.out; omega)]; rfl))
        go_wp2
        go_ret2
        exact ⟨congrArg Ending.returned (tup2 (by rw [R.out.1]; rfl) (bool_eq R.out.2.symm)), hb⟩
  · have R := hide (get4_none (show get4 s = none by unfold get4; rw [if_neg hl]))
    generalize hd : dots s = ps at *
    have LL : ((ps.length : Int) != 4) = true := by simp; omega
    clear hd hl
    go_enter Tryd.func8, Tryd.ntmps8
    go_wp2_with fail
    refine C.out.mono ?_
    rintro e w1 ⟨rfl, hb1, hr1⟩
    go_wp2
    go_ret2
    exact ⟨congrArg Ending.returned (tup2 (by rw [R.out.1]; rfl) (bool_eq R.out.2.symm)), hb1⟩
end Go.Proofs.YtmapcllmiomelaaDoor
