/-
  Contracts of of, what it makes, sound, Find; of the law's same. Conditions: a row takes at most 2^47 bytes; data are no longer than an int.
-/
import Derived.Test.YtmoklodaeicpgaaOpI
import Derived.BigQuiet
import Derived.Lib.Hide
namespace Go.Proofs.Ytmoklodaeicpgaa
open Go.RowKit Go.Joins

/-- a box that holds a code -/
def BoxC (g : Nat) (c : UInt8) (W : World) : Prop := g < W.heap.size ∧ W.cell? ⟨g, 0, none⟩ = some (.int .u8 (c.toNat : Int))
theorem BoxC.step {g : Nat} {c : UInt8} {W w2 : World} (h : BoxC g c W) (hb : Below W.heap.size W w2) : BoxC g c w2 := ⟨Nat.lt_of_lt_of_le h.1 hb.size, keep_cell hb h.2⟩
abbrev OfF (g : Nat) : Value := .func (.func 58) #[] #[.pointer (some ⟨g, 0, none⟩)]
theorem enters_of1 (args : Array Value) (w : World) : (callFunc 58 args).run Try.prog w = .ok (.enter 58 args) w := enters_of Try.func58 (by kernel_rfl) rfl args w
theorem byte_eq (a b : UInt8) : ((a.toNat : Int) == (b.toNat : Int)) = decide (a = b) := by
  by_cases h : a = b
  · subst h; simp
  · rw [decide_eq_false h]
    have : (a.toNat : Int) ≠ (b.toNat : Int) := fun e => h (UInt8.toNat_inj.1 (by omega))
    simp [this]
set_option maxHeartbeats 400000 in
theorem of_any (c : UInt8) (w : World) : Calls Try.prog 38 #[.int .u8 (c.toNat : Int)] w fun e w' => e = .returned (OfF w.heap.size) ∧ Below w.heap.size w w' ∧ BoxC w.heap.size c w' := by
  go_enter Try.func38, Try.ntmps38
  go_wp2
  go_ret
  exact ⟨rfl, below_alloc _ _, by simp, by simp [go_sem]⟩
set_option maxHeartbeats 400000 in
theorem of1_any (x : Opt) (c : UInt8) (g : Nat) (w : World) (hb : BoxC g c w) : Calls Try.prog 58 #[OV x, .pointer (some ⟨g, 0, none⟩)] w (Gives (.bool (decide (x.1 = c))) w) := by
  have E := hide (byte_eq x.1 c)
  have BX := fun o => (hb.step (below_alloc w o)).2
  go_enter Try.func58, Try.ntmps58
  go_wp2
  go_ret
  exact ⟨congrArg Ending.returned (bool_eq E.out), below_alloc _ _⟩
set_option maxHeartbeats 400000 in
theorem sound_any (x : Opt) (w : World) : Calls Try.prog 36 #[OV x] w (Gives (.bool (soundO x)) w) := by
  have S0 : ((x.1.toNat : Int) == 0) = decide (x.1 = 0) := byte_eq x.1 0
  have S1 : ((x.1.toNat : Int) == 255) = decide (x.1 = 255) := byte_eq x.1 255
  by_cases h1 : x.1 = 0
  · have E := hide (show soundO x = false by unfold soundO; rw [decide_eq_false]; rintro ⟨h, _⟩; exact h h1)
    have F0 : (x.1.toNat : Int) = 0 := by rw [h1]; rfl
    clear S0 S1 h1
    go_enter Try.func36, Try.ntmps36
    go_wp2
    go_ret
    exact ⟨congrArg Ending.returned (bool_eq E.out.symm), below_alloc _ _⟩
  · have F0 : ¬ (x.1.toNat : Int) = 0 := fun e => h1 (UInt8.toNat_inj.1 (by have : (0 : UInt8).toNat = 0 := rfl; omega))
    by_cases h2 : x.1 = 255
    · have E := hide (show soundO x = false by unfold soundO; rw [decide_eq_false]; rintro ⟨_, h, _⟩; exact h h2)
      have F1 : (x.1.toNat : Int) = 255 := by rw [h2]; rfl
      clear S0 S1 h1 h2 F0
      go_enter Try.func36, Try.ntmps36
      go_wp2
      go_ret
      exact ⟨congrArg Ending.returned (bool_eq E.out.symm), below_alloc _ _⟩
    · have F1 : ¬ (x.1.toNat : Int) = 255 := fun e => h2 (UInt8.toNat_inj.1 (by have : (255 : UInt8).toNat = 255 := rfl; omega))
      have E := hide (show ((x.1.toNat : Int) != 0 && (x.1.toNat : Int) != 255 && decide ((x.2.size : Int) ≤ 4096)) = soundO x by
        unfold bne
        rw [S0, S1, decide_eq_false h1, decide_eq_false h2]
        unfold soundO
        simp only [Bool.not_false, Bool.true_and]
        rw [decide_eq_decide]
        exact ⟨fun h => ⟨h1, h2, by omega⟩, fun h => by have := h.2.2; omega⟩)
      clear S0 S1 h1 h2
      go_enter Try.func36, Try.ntmps36
      go_wp2
      go_ret
      exact ⟨congrArg Ending.returned (bool_eq E.out), below_alloc _ _⟩
/-- what Find tells -/
def findI (l : List Opt) (c : UInt8) : Int := idxI (fun x => decide (x.1 = c)) l
def findD (l : List Opt) (c : UInt8) : ByteArray := match l.find? (fun x => decide (x.1 = c)) with
  | some x => x.2
  | none => ⟨#[]⟩
theorem find_at {l : List Opt} {c : UInt8} : (findI l c = -1 ∧ findD l c = ⟨#[]⟩ ∧ hasC c l = false) ∨ ∃ (k : Nat) (x : Opt), l[k]? = some x ∧ findI l c = (k : Int) ∧ findD l c = x.2 ∧ hasC c l = true := by
  unfold findI idxI findD hasC
  cases h : l.findIdx? (fun x => decide (x.1 = c)) with
  | none =>
    left
    have hn := List.findIdx?_eq_none_iff.1 h
    refine ⟨rfl, ?_, ?_⟩
    · rw [List.find?_eq_none.2 (fun x hx => by simpa using hn x hx)]
    · rw [List.any_eq_false]
      exact fun x hx => by simpa using hn x hx
  | some i =>
    right
    obtain ⟨hi, h1, h2⟩ := List.findIdx?_eq_some_iff_getElem.1 h
    refine ⟨i, l[i], List.getElem?_eq_getElem hi, rfl, ?_, ?_⟩
    · have : l.find? (fun x => decide (x.1 = c)) = some l[i] := List.find?_eq_some_iff_getElem.2 ⟨h1, i, hi, rfl, fun j hj => by simpa using h2 j hj⟩
      rw [this]
    · exact List.any_eq_true.2 ⟨_, List.getElem_mem hi, h1⟩
set_option maxHeartbeats 1000000 in
theorem find_any (c : UInt8) {v : Value} {l : List Opt} (hl : l.length * 24 ≤ 140737488355328) (w : World) (hv : LstO v l w) :
    Calls Try.prog 29 #[v, .int .u8 (c.toNat : Int)] w (Gives (.tuple #[.string (findD l c), .bool (hasC c l)]) w) := by
  have HV := hide (fun W (H : Below w.heap.size w W) => hv.step H)
  have IX := hide (fun (g : Nat) (W : World) (hb : Below w.heap.size w W) (hx : BoxC g c W) => index_any 58 #[.pointer (some ⟨g, 0, none⟩)] (fun x => decide (x.1 = c)) hl W (HV.out W hb) enters_of1 (fun W2 h2 x _ => of1_any x c g W2 (hx.step h2)))
  have FI : ∃ i, Hid (idxI (fun x => decide (x.1 = c)) l = i) := ⟨_, hide rfl⟩
  obtain ⟨i, FI⟩ := FI
  obtain ⟨q, d, rfl⟩ := lstO_len hv
  rcases find_at (l := l) (c := c) with ⟨h1, h2, h3⟩ | ⟨k, x, hx, h1, h2, h3⟩
  · have E := hide (And.intro h2 h3)
    obtain rfl : i = -1 := by rw [← FI.out]; exact h1
    clear h1 h2 h3 hv
    go_enter Try.func29, Try.ntmps29
    go_wp2_with fail
    refine (of_any c w).mono ?_
    rintro e w1 ⟨rfl, hb1, hx1⟩
    have I := IX.out _ w1 hb1 hx1
    rw [FI.out] at I
    go_wp2_with fail
    refine I.mono ?_
    rintro e w2 ⟨rfl, hb2⟩
    have HB := hide (chain hb1 hb2)
    go_wp2
    go_ret2
    exact ⟨congrArg Ending.returned (tup2 (by rw [E.out.1]; rfl) (bool_eq E.out.2.symm)), HB.out⟩
  · have E := hide (And.intro h2 h3)
    have hk : k < l.length := (List.getElem?_eq_some_iff.1 hx).1
    obtain rfl : i = (k : Int) := by rw [← FI.out]; exact h1
    have KN : ¬ (k : Int) < 0 := by omega
    clear h1 h2 h3
    obtain ⟨b, o, rfl, _, _⟩ := lstO_at hv hx
    have RX := hide (fun W (H : Below w.heap.size w W) => lstO_at (HV.out W H) hx)
    clear hv
    go_enter Try.func29, Try.ntmps29
    go_wp2_with fail
    refine (of_any c w).mono ?_
    rintro e w1 ⟨rfl, hb1, hx1⟩
    have I := IX.out _ w1 hb1 hx1
    rw [FI.out] at I
    go_wp2_with fail
    refine I.mono ?_
    rintro e w2 ⟨rfl, hb2⟩
    have HB := hide (chain hb1 hb2)
    obtain ⟨_, _, e, _, u0, u1⟩ := RX.out w2 HB.out
    cases e
    go_wp2
    go_ret2
    exact ⟨congrArg Ending.returned (tup2 (by rw [E.out.1]; rfl) (bool_eq E.out.2.symm)), HB.out⟩
theorem bytes_inj {a b : ByteArray} (h : a.toList = b.toList) : a = b := by
  rw [ByteArray.toList_eq, ByteArray.toList_eq] at h
  exact ByteArray.ext (Array.toList_inj.1 h)
theorem opt_ne {x y : Opt} (h : ¬ x = y) : (¬ (x.1.toNat : Int) = (y.1.toNat : Int)) ∨ ((x.1.toNat : Int) = (y.1.toNat : Int) ∧ ¬ x.2.toList = y.2.toList) := by
  by_cases h1 : (x.1.toNat : Int) = (y.1.toNat : Int)
  · exact Or.inr ⟨h1, fun h2 => h (Prod.ext (UInt8.toNat_inj.1 (by omega)) (bytes_inj h2))⟩
  · exact Or.inl h1
/-- two rows of options beside one another -/
def H2O (w : World) (va vb : Value) (l m : List Opt) (W : World) : Prop := Below w.heap.size w W ∧ LstO va l W ∧ LstO vb m W
theorem H2O.step {w : World} {va vb : Value} {l m : List Opt} {W w2 : World} (h : H2O w va vb l m W) (hb : Below W.heap.size W w2) : H2O w va vb l m w2 := ⟨chain h.1 hb, h.2.1.step hb, h.2.2.step hb⟩
theorem H2O.drew {w : World} {va vb : Value} {l m : List Opt} {W : World} (h : H2O w va vb l m W) : H2O w va vb l m { W with drawn := W.drawn + 1 } := h.step (Below.refl _ _).drew
end Go.Proofs.Ytmoklodaeicpgaa
