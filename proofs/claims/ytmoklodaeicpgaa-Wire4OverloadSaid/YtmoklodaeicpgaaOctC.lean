/-
  Contracts of the calls of octet on bytes. Conditions: a number is one of its type; a string is no longer than an int; an int is an int of 64 bits; Pad: of up to 2^31 - 1 bytes.
-/
import Derived.Test.YtmoklodaeicpgaaOctP
import Derived.Test.YtmoklodaeicpgaaShelf
namespace Go.Proofs.Ytmoklodaeicpgaa
open Go.RowKit Go.Joins

/-- the block of an address -/
def HA (w : World) (a : Nat) (W : World) : Prop := Below w.heap.size w W ∧ W.cell? ⟨w.heap.size, 0, none⟩ = some (.int .u64 (hi a : Nat)) ∧ W.cell? ⟨w.heap.size, 1, none⟩ = some (.int .u64 (lo a : Nat))
theorem HA.step {w : World} {a : Nat} {W w2 : World} (h : HA w a W) (hb : Below W.heap.size W w2) : HA w a w2 :=
  ⟨h.1.trans (hb.mono h.1.size), keep_cell hb h.2.1, keep_cell hb h.2.2⟩
theorem HA.drew {w : World} {a : Nat} {W : World} (h : HA w a W) : HA w a { W with drawn := W.drawn + 1 } := h.step (Below.refl _ _).drew
theorem ha_new (w : World) (a : Nat) (t : TypeId) : HA w a (w.alloc (.cells #[.int .u64 (hi a : Nat), .int .u64 (lo a : Nat)] t)) := by
  refine ⟨below_alloc _ _, ?_, ?_⟩ <;> simp [go_sem]
theorem cat2 (l1 l2 : List UInt8) : (ByteArray.mk l1.toArray ++ ByteArray.mk l2.toArray) = ⟨(l1 ++ l2).toArray⟩ := by
  apply ByteArray.ext
  simp [ByteArray.data_append]
theorem cat1 (l : List UInt8) (s : ByteArray) : (ByteArray.mk l.toArray ++ s) = ⟨(l ++ s.data.toList).toArray⟩ := by
  apply ByteArray.ext
  simp [ByteArray.data_append]
theorem catR (s : ByteArray) (l : List UInt8) : (s ++ ByteArray.mk l.toArray) = ⟨(s.data.toList ++ l).toArray⟩ := by
  apply ByteArray.ext
  simp [ByteArray.data_append]
/-! ### runs -/
def runO (s : ByteArray) : Bool := decide (s.size ≤ 65535)
def runV (s : ByteArray) : ByteArray := if runO s = true then ⟨(beL 2 s.size ++ s.data.toList).toArray⟩ else ⟨#[]⟩
def takeO (s : ByteArray) (a : Int) : Bool := cutO s a 2 && cutO s (a + 2) (getV 2 s a : Nat)
def takeV (s : ByteArray) (a : Int) : ByteArray := if takeO s a = true then cutV s (a + 2) (getV 2 s a : Nat) else ⟨#[]⟩
def takeE (s : ByteArray) (a : Int) : Int := if takeO s a = true then a + 2 + (getV 2 s a : Nat) else 0
theorem take_no {s : ByteArray} {a : Int} (h : takeO s a = false) : takeV s a = ⟨#[]⟩ ∧ takeE s a = 0 ∧ takeO s a = false := by
  unfold takeV takeE; rw [h]; exact ⟨rfl, rfl, rfl⟩
theorem take_no1 {s : ByteArray} {a : Int} (h : cutO s a 2 = false) : takeV s a = ⟨#[]⟩ ∧ takeE s a = 0 ∧ takeO s a = false := take_no (by unfold takeO; rw [h]; rfl)
theorem take_no2 {s : ByteArray} {a : Int} (h : cutO s (a + 2) (getV 2 s a : Nat) = false) : takeV s a = ⟨#[]⟩ ∧ takeE s a = 0 ∧ takeO s a = false := take_no (by unfold takeO; rw [h, Bool.and_false])
theorem take_yes {s : ByteArray} {a : Int} (h1 : cutO s a 2 = true) (h2 : cutO s (a + 2) (getV 2 s a : Nat) = true) : takeV s a = cutV s (a + 2) (getV 2 s a : Nat) ∧ takeE s a = a + 2 + (getV 2 s a : Nat) ∧ takeO s a = true := by
  have h : takeO s a = true := by unfold takeO; rw [h1, h2]; rfl
  unfold takeV takeE; rw [h]; exact ⟨rfl, rfl, rfl⟩
theorem cut_true {s : ByteArray} {a n : Int} (h : cutO s a n = true) : 0 ≤ a ∧ 0 ≤ n ∧ n ≤ (s.size : Int) - a := by
  unfold cutO at h; simpa using h
theorem cut_len {s : ByteArray} {a : Int} {n : Nat} (h : cutO s a n = true) : (cutV s a n).size = n := by
  have := cut_true h
  rw [cut_yes h, sub_size (by omega)]; rfl
/-! ### addresses -/
def getA (s : ByteArray) (a : Int) : Nat := beV (cutV s a 16).data.toList
theorem beV_append (l r : List UInt8) : beV (l ++ r) = beV l * 256 ^ r.length + beV r := by
  have F : ∀ (l r : List UInt8) (n : Nat), beF n (l ++ r) = beF (beF n l) r := by
    intro l
    induction l with
    | nil => intros; rfl
    | cons c l ih => intro r n; rw [List.cons_append, beF, beF, ih]
  have G : ∀ (r : List UInt8) (n : Nat), beF n r = n * 256 ^ r.length + beF 0 r := by
    intro r
    induction r with
    | nil => intro n; simp [beF]
    | cons c r ih =>
      intro n
      rw [beF, ih, beF, ih (0 * 256 + c.toNat), List.length_cons, Nat.pow_succ, Nat.add_mul, Nat.zero_mul, Nat.zero_add, Nat.mul_assoc, Nat.mul_comm 256 (256 ^ r.length), Nat.add_assoc]
  unfold beV
  rw [F, G]
theorem getA_fits (s : ByteArray) (a : Int) : Fits (getA s a) := by
  have h1 := getV_lt 16 s a
  exact h1
theorem getA_words (s : ByteArray) (a : Int) : (getV 8 (cutV s a 16) 0 : Nat) = hi (getA s a) ∧ (getV 8 (cutV s a 16) 8 : Nat) = lo (getA s a) := by
  cases h : cutO s a 16 with
  | false =>
    have e : cutV s a 16 = ⟨#[]⟩ := cut_no h
    unfold getA
    rw [e]
    exact ⟨rfl, rfl⟩
  | true =>
    have hl : (cutV s a 16).size = 16 := cut_len (n := 16) h
    have hl2 : (cutV s a 16).data.toList.length = 16 := hl
    have e0 : cutO (cutV s a 16) 0 (8 : Nat) = true := by unfold cutO; rw [hl]; rfl
    have e8 : cutO (cutV s a 16) 8 (8 : Nat) = true := by unfold cutO; rw [hl]; rfl
    unfold getV getA
    rw [cut_yes e0, cut_yes e8, sub_list, sub_list]
    generalize (cutV s a 16).data.toList = l at *
    have hr : (l.drop 8).length = 8 := by rw [List.length_drop, hl2]
    have t0 : (l.drop (0 : Int).toNat).take ((8 : Nat) : Int).toNat = l.take 8 := rfl
    have t8 : (l.drop (8 : Int).toNat).take ((8 : Nat) : Int).toNat = l.drop 8 := List.take_of_length_le (by show (l.drop 8).length ≤ 8; omega)
    rw [t0, t8]
    have e := beV_append (l.take 8) (l.drop 8)
    have b := beV_lt (l.drop 8)
    rw [List.take_append_drop, hr, show (256 : Nat) ^ 8 = 18446744073709551616 from rfl] at e
    rw [hr, show (256 : Nat) ^ 8 = 18446744073709551616 from rfl] at b
    rw [e]
    exact ⟨(hi_mk b).symm, (lo_mk b).symm⟩
/-! ### padding -/
theorem repeat_zero (c : Nat) : Lib.repeatL [0] c = List.replicate c 0 := by
  induction c with
  | zero => rfl
  | succ c ih => rw [Lib.repeatL, ih, List.replicate_succ]; rfl
def padV (s : ByteArray) (c : Nat) : ByteArray := ⟨(s.data.toList ++ List.replicate c 0).toArray⟩

set_option maxRecDepth 100000 in
theorem put16_any (x : Nat) (hx : x < 65536) (w : World) : Calls Try.prog 46 #[.int .u16 (x : Int)] w (Gives (St (beL 2 x)) w) := by
  have P := hide (fun W => put16_gen x hx W)
  go_enter Try.func46, Try.ntmps46
  go_wp2_with fail
  refine (P.out _).mono ?_
  rintro e w' ⟨rfl, hb⟩
  go_wp2
  go_ret
  exact ⟨rfl, hb⟩
set_option maxRecDepth 100000 in
theorem get16_any (s : ByteArray) (hs : s.size ≤ maxLen) {a : Int} (ha : I64 a) (w : World) : Calls Try.prog 66 #[.string s, .int .i64 a] w (Same (.tuple #[.int .u16 (getV 2 s a : Nat), .bool (cutO s a 2)]) w) := by
  have P := hide (fun W => get16_gen s hs ha W)
  have G := getV_lt 2 s a
  generalize getV 2 s a = v at *
  generalize cutO s a 2 = o at *
  go_enter Try.func66, Try.ntmps66
  go_wp2_with fail
  refine (P.out _).mono ?_
  rintro e w' ⟨rfl, rfl⟩
  go_wp2
  go_ret2
  exact ⟨congrArg Ending.returned (tup2 rfl rfl), rfl⟩

set_option maxRecDepth 100000 in
theorem put32_any (x : Nat) (hx : x < 4294967296) (w : World) : Calls Try.prog 47 #[.int .u32 (x : Int)] w (Gives (St (beL 4 x)) w) := by
  have P := hide (fun W => put32_gen x hx W)
  go_enter Try.func47, Try.ntmps47
  go_wp2_with fail
  refine (P.out _).mono ?_
  rintro e w' ⟨rfl, hb⟩
  go_wp2
  go_ret
  exact ⟨rfl, hb⟩
set_option maxRecDepth 100000 in
theorem get32_any (s : ByteArray) (hs : s.size ≤ maxLen) {a : Int} (ha : I64 a) (w : World) : Calls Try.prog 67 #[.string s, .int .i64 a] w (Same (.tuple #[.int .u32 (getV 4 s a : Nat), .bool (cutO s a 4)]) w) := by
  have P := hide (fun W => get32_gen s hs ha W)
  have G := getV_lt 4 s a
  generalize getV 4 s a = v at *
  generalize cutO s a 4 = o at *
  go_enter Try.func67, Try.ntmps67
  go_wp2_with fail
  refine (P.out _).mono ?_
  rintro e w' ⟨rfl, rfl⟩
  go_wp2
  go_ret2
  exact ⟨congrArg Ending.returned (tup2 rfl rfl), rfl⟩

set_option maxRecDepth 100000 in
theorem pad_yes (s : ByteArray) (c : Nat) (hc : s.size + c ≤ 2147483647) (w : World) :
    Calls Try.prog 44 #[.string s, .int .i64 ((s.size + c : Nat) : Int)] w (Gives (.tuple #[.string (padV s c), .bool true]) w) := by
  have P := hide (fun W => Try.strings_Repeat ⟨#[0]⟩ c W (by omega) (show 1 * c ≤ 140737488355328 by omega))
  have R := hide (show Lib.repeatL [0] c = List.replicate c 0 from repeat_zero c)
  rw [show (ByteArray.mk #[0]).data.toList = [0] from rfl, R.out] at P
  have L : (List.replicate c (0 : UInt8)).length = c := List.length_replicate
  have V := hide (show padV s c = ⟨(s.data.toList ++ List.replicate c 0).toArray⟩ from rfl)
  generalize List.replicate c (0 : UInt8) = l at *
  have N1 : ¬ 9223372036854775807 < s.size + l.length := by omega
  obtain ⟨m, hm⟩ : ∃ m : Nat, m = s.size + c := ⟨_, rfl⟩
  rw [← hm]
  have h1 : ¬ (m : Int) < (s.size : Int) := by omega
  have h2 : ¬ (2147483647 : Int) < (m : Int) := by omega
  have E : (m : Int) - (s.size : Int) = (c : Int) := by omega
  clear L R hm
  go_enter Try.func44, Try.ntmps44
  go_wp2_with fail
  refine (P.out _).mono ?_
  rintro e w' ⟨rfl, hb⟩
  go_wp2
  go_ret2
  exact ⟨congrArg Ending.returned (tup2 (by rw [V.out]; exact congrArg Value.string (catR s l)) rfl), hb⟩
set_option maxRecDepth 100000 in
theorem pad_no (s : ByteArray) {n : Int} (h : n < (s.size : Int)) (w : World) :
    Calls Try.prog 44 #[.string s, .int .i64 n] w (Gives (.tuple #[.string ⟨#[]⟩, .bool false]) w) := by
  go_enter Try.func44, Try.ntmps44
  go_wp2
  go_ret2
  exact ⟨rfl, Below.refl _ _⟩
end Go.Proofs.Ytmoklodaeicpgaa
