/-
  Contract of getGroup: the number that one to four hexadecimal digits are of. Condition: the text is shorter than 2^32 - 15 bytes.
-/
import Derived.Test.YtmapcllmiomelaaDoorTextU
namespace Go.Proofs.YtmapcllmiomelaaDoor
open Go.RowKit Go.Joins

/-- the sixteen digits with great letters -/
abbrev Digs : ByteArray := ⟨#[48, 49, 50, 51, 52, 53, 54, 55, 56, 57, 65, 66, 67, 68, 69, 70]⟩
def hX (b : UInt8) : Int := Lib.indexByte Digs.data.toList b
theorem hX_fin : ∀ i : Fin 256, -1 ≤ hX (UInt8.ofNat i.val) ∧ hX (UInt8.ofNat i.val) < 16 := by decide +kernel
theorem hX_all (b : UInt8) : -1 ≤ hX b ∧ hX b < 16 := by
  have := hX_fin ⟨b.toNat, b.toNat_lt⟩
  simpa using this
theorem idX_is {b : UInt8} {v : Int} (e : hX b = v) (w : World) : Calls Tryd.prog 36 #[.string Digs, .int .u8 (b.toNat : Int)] w fun e w' => e = .returned (.int .i64 v) ∧ w' = w := by
  subst e
  have := Tryd.strings_IndexByte Digs (b.toNat : Int) w
  rw [Int.toNat_natCast, show b.toNat.toUInt8 = b by simp] at this
  exact this
def gx (b : UInt8) : Int := max (hx b) (hX b)
theorem gx_all (b : UInt8) : -1 ≤ gx b ∧ gx b < 16 := by
  have := hx_all b
  have := hX_all b
  unfold gx; omega
def grpF : Nat → List UInt8 → Option Nat
  | acc, [] => some acc
  | acc, c :: r => if 0 ≤ gx c then grpF (acc * 16 + (gx c).toNat) r else none
def grp (l : List UInt8) : Option Nat := if l = [] ∨ 4 < l.length then none else grpF 0 l
def grV (l : List UInt8) : Nat := match grp l with | some n => n | none => 0
def grO (l : List UInt8) : Bool := (grp l).isSome
theorem grp_none {l : List UInt8} (h : grp l = none) : grV l = 0 ∧ grO l = false := by unfold grV grO; rw [h]; exact ⟨rfl, rfl⟩
theorem grp_some {l : List UInt8} {n : Nat} (h : grp l = some n) : grV l = n ∧ grO l = true := by unfold grV grO; rw [h]; exact ⟨rfl, rfl⟩
theorem drop_one {s : ByteArray} {k : Nat} (h : k < s.size) : s.data.toList.drop k = s[k] :: s.data.toList.drop (k + 1) := by
  rw [List.drop_eq_getElem_cons (show k < s.data.toList.length by simpa using h)]
  rfl
theorem grp_step {s : ByteArray} {k acc : Nat} (h : k < s.size) : grpF acc (s.data.toList.drop k) = if 0 ≤ gx s[k] then grpF (acc * 16 + (gx s[k]).toNat) (s.data.toList.drop (k + 1)) else none := by
  rw [drop_one h]; rfl
theorem nib_or {acc n : Nat} (ha : acc < 4096) (hn : n < 16) : bits .or .u16 ((acc : Int) * 16) (n : Int) = ((acc * 16 + n : Nat) : Int) := by
  rw [show ((acc : Int) * 16) = ((acc * 16 : Nat) : Int) by omega, u16_or_nat _ _ (by omega) (by omega)]
  congr 1
  rw [Nat.mul_comm]
  exact (Nat.two_pow_add_eq_or_of_lt (i := 4) (by omega) acc).symm

set_option maxRecDepth 100000 in
set_option maxHeartbeats 1000000 in
theorem grp_any (s : ByteArray) (w : World) :
    Calls Tryd.prog 47 #[.string s] w (Gives (.tuple #[.int .u16 (grV s.data.toList : Nat), .bool (grO s.data.toList)]) w) := by
  by_cases h0 : s.data.toList = []
  · have R := hide (grp_none (show grp s.data.toList = none by unfold grp; rw [if_pos (Or.inl h0)]))
    have e : s.toList = [] := by rw [ByteArray.toList_eq]; exact h0
    have e2 : s.toList.isEmpty = true := by rw [e]; rfl
    clear h0
    go_enter Tryd.func47, Tryd.ntmps47
    go_wp2
    go_ret2
    exact ⟨congrArg Ending.returned (tup2 (by rw [R.out.1]; rfl) (bool_eq R.out.2.symm)), Below.refl _ _⟩
  have e2 : s.toList.isEmpty = false := by rw [ByteArray.toList_eq]; simpa using h0
  by_cases h4 : 4 < s.size
  · have R := hide (grp_none (show grp s.data.toList = none by unfold grp; rw [if_pos (Or.inr (by simpa using h4))]))
    clear h0
    go_enter Tryd.func47, Tryd.ntmps47
    go_wp2
    go_ret2
    exact ⟨congrArg Ending.returned (tup2 (by rw [R.out.1]; rfl) (bool_eq R.out.2.symm)), Below.refl _ _⟩
  · have G := hide (show grp s.data.toList = grpF 0 s.data.toList by unfold grp; rw [if_neg (by rintro (h | h); exact h0 h; exact h4 (by simpa using h))])
    clear h0
    go_enter Tryd.func47, Tryd.ntmps47
    go_wp2_with fail
    go_loopw [4, 16] (fun g i wr => ∃ (k acc : Nat), k ≤ s.size ∧ i = .int .i64 k ∧ g = .int .u16 (acc : Nat) ∧ Hid (acc < 16 ^ k) ∧ Hid (grpF acc (s.data.toList.drop k) = grp s.data.toList) ∧ Below w.heap.size w wr) (fun _ i _ => s.size - (intOf i).toNat)
    case atStart => exact ⟨0, 0, Nat.zero_le _, rfl, rfl, hide (by omega), hide (by rw [G.out]; rfl), Below.refl _ _⟩
    case round =>
      obtain ⟨k, acc, hk, rfl, rfl, HC, E, hb⟩ := hrel
      by_cases hlt : k < s.size
      · have ST := hide (grp_step (acc := acc) hlt)
        have BG := gx_all s[k]
        have EG := hide (show gx s[k] = max (hx s[k]) (hX s[k]) from rfl)
        generalize hA : hx s[k] = A at EG
        generalize hB : hX s[k] = B at EG
        generalize gx s[k] = M at ST BG EG
        have HA := hide hA
        have HB := hide hB
        have EG := hide EG
        clear hA hB
        obtain ⟨bm1, bm2⟩ := BG
        by_cases cm : M < 0
        · have R := hide (grp_none (show grp s.data.toList = none by rw [← E.out, ST.out, if_neg (by omega)]))
          go_wp2_with fail
          refine wp_region_quiet (C := Dr wr) (by kernel_rfl) (by kernel_rfl) ⟨1, rfl⟩ ?_
          refine wpQuiet_step (fun K hK => ?_)
          go_simp
          first | refine ⟨_, fun _ _ => rfl, hK _ ?_⟩ | refine hK _ ?_
          clear hK K
          refine wpQuiet_step (fun K hK => ?_)
          go_simp
          first | refine ⟨_, fun _ _ => rfl, hK _ ?_⟩ | refine hK _ ?_
          clear hK K
          refine wpQuiet_step (fun K hK => ?_)
          go_simp
          first | refine ⟨_, fun _ _ => rfl, hK _ ?_⟩ | refine hK _ ?_
          clear hK K
          refine wpQuiet_step (fun K hK => ?_)
          go_simp
          refine ⟨_, fun W hW => (idx_is HA.out W).mono fun e w2 ⟨he, hw⟩ => ⟨he, by rw [hw]; exact hW⟩, hK _ ?_⟩
          clear hK K
          refine wpQuiet_step (fun K hK => ?_)
          go_simp
          first | refine ⟨_, fun _ _ => rfl, hK _ ?_⟩ | refine hK _ ?_
          clear hK K
          refine wpQuiet_step (fun K hK => ?_)
          go_simp
          first | refine ⟨_, fun _ _ => rfl, hK _ ?_⟩ | refine hK _ ?_
          clear hK K
          refine wpQuiet_step (fun K hK => ?_)
          go_simp
          first | refine ⟨_, fun _ _ => rfl, hK _ ?_⟩ | refine hK _ ?_
          clear hK K
          refine wpQuiet_step (fun K hK => ?_)
          go_simp
          refine ⟨_, fun W hW => (idX_is HB.out W).mono fun e w2 ⟨he, hw⟩ => ⟨he, by rw [hw]; exact hW⟩, hK _ ?_⟩
          clear hK K
          refine wpQuiet_step (fun K hK => ?_)
          go_simp
          refine ⟨.int .i64 M, fun _ _ => by rw [EG.out], hK _ ?_⟩
          clear hK K
          refine wpQuiet_step (fun K hK => ?_)
          go_simp
          first | refine ⟨_, fun _ _ => rfl, hK _ ?_⟩ | refine hK _ ?_
          clear hK K
          refine wpQuiet_nil ?_
          rintro wx ⟨m, rfl⟩
          go_wp2
          go_ret2
          exact ⟨congrArg Ending.returned (tup2 (by rw [R.out.1]; rfl) (bool_eq R.out.2.symm)), hb.trans ((below_drewN _ _).mono hb.size)⟩
        · obtain ⟨x, rfl⟩ := Int.eq_ofNat_of_zero_le (show 0 ≤ M by omega)
          have xl : x < 16 := by omega
          have al : acc < 4096 := Nat.lt_of_lt_of_le HC.out (Nat.le_trans (Nat.pow_le_pow_right (by omega) (show k ≤ 3 by omega)) (by omega))
          have F := hide (show grpF (acc * 16 + x) (s.data.toList.drop (k + 1)) = grp s.data.toList by rw [← E.out, ST.out, if_pos (by omega), Int.toNat_natCast])
          have N := hide (nib_or al xl)
          have A2 := hide (show acc * 16 + x < 16 ^ (k + 1) by have := HC.out; rw [Nat.pow_succ]; generalize 16 ^ k = p at *; omega)
          go_wp2_with fail
          refine wp_region_quiet (C := Dr wr) (by kernel_rfl) (by kernel_rfl) ⟨1, rfl⟩ ?_
          refine wpQuiet_step (fun K hK => ?_)
          go_simp
          first | refine ⟨_, fun _ _ => rfl, hK _ ?_⟩ | refine hK _ ?_
          clear hK K
          refine wpQuiet_step (fun K hK => ?_)
          go_simp
          first | refine ⟨_, fun _ _ => rfl, hK _ ?_⟩ | refine hK _ ?_
          clear hK K
          refine wpQuiet_step (fun K hK => ?_)
          go_simp
          first | refine ⟨_, fun _ _ => rfl, hK _ ?_⟩ | refine hK _ ?_
          clear hK K
          refine wpQuiet_step (fun K hK => ?_)
          go_simp
          refine ⟨_, fun W hW => (idx_is HA.out W).mono fun e w2 ⟨he, hw⟩ => ⟨he, by rw [hw]; exact hW⟩, hK _ ?_⟩
          clear hK K
          refine wpQuiet_step (fun K hK => ?_)
          go_simp
          first | refine ⟨_, fun _ _ => rfl, hK _ ?_⟩ | refine hK _ ?_
          clear hK K
          refine wpQuiet_step (fun K hK => ?_)
          go_simp
          first | refine ⟨_, fun _ _ => rfl, hK _ ?_⟩ | refine hK _ ?_
          clear hK K
          refine wpQuiet_step (fun K hK => ?_)
          go_simp
          first | refine ⟨_, fun _ _ => rfl, hK _ ?_⟩ | refine hK _ ?_
          clear hK K
          refine wpQuiet_step (fun K hK => ?_)
          go_simp
          refine ⟨_, fun W hW => (idX_is HB.out W).mono fun e w2 ⟨he, hw⟩ => ⟨he, by rw [hw]; exact hW⟩, hK _ ?_⟩
          clear hK K
          refine wpQuiet_step (fun K hK => ?_)
          go_simp
          refine ⟨.int .i64 (x : Nat), fun _ _ => by rw [EG.out], hK _ ?_⟩
          clear hK K
          refine wpQuiet_step (fun K hK => ?_)
          go_simp
          first | refine ⟨_, fun _ _ => rfl, hK _ ?_⟩ | refine hK _ ?_
          clear hK K
          refine wpQuiet_nil ?_
          rintro wx ⟨m, rfl⟩
          go_wp2
          go_roundw
          case rel => exact ⟨k + 1, acc * 16 + x, by omega, by go_num, by rw [N.out], A2, F, hb.trans ((below_drewN _ _).mono hb.size)⟩
          case measure => simp [intOf]; omega
      · have e : k = s.size := by omega
        have R := hide (grp_some (show grp s.data.toList = some acc by rw [← E.out, List.drop_of_length_le (by simp; omega)]; rfl))
        clear e
        go_wp2
        go_ret2
        exact ⟨congrArg Ending.returned (tup2 (by rw [R.out.1]; rfl) (bool_eq R.out.2.symm)), hb⟩
end Go.Proofs.YtmapcllmiomelaaDoor
