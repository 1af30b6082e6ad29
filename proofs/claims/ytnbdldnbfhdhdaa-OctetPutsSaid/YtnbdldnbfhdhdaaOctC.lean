/-
  Contracts of the calls of octet on bytes. Conditions: a number is one of its type; a string is no longer than an int; an int is an int of 64 bits; Pad: of up to 2^31 - 1 bytes.
-/
import Derived.Test.YtnbdldnbfhdhdaaOctP
import Derived.Test.YtnbdldnbfhdhdaaShelf
namespace Go.Proofs.Ytnbdldnbfhdhdaa
open Go.RowKit Go.Joins

/-- the block of an address -/
def HA (w : World) (a : Nat) (W : World) : Prop := Below w.heap.size w W ∧ W.cell? ⟨w.heap.size, 0, none⟩ = some (.int .u64 (hi a : Nat)) ∧ W.cell? ⟨w.heap.size, 1, none⟩ = some (.int .u64 (lo a : Nat))
theorem HA.step {w : World} {a : Nat} {W w2 : World} (h : HA w a W) (hb : Below W.heap.size W w2) : HA w a w2 :=
  ⟨h.1.trans (hb.mono h.1.size), keep_cell hb h.2.1, keep_cell hb h.2.2⟩
theorem HA.drew {w : World} {a : Nat} {W : World} (h : HA w a W) : HA w a { W with drawn := W.drawn + 1 } := h.step (Below.refl _ _).drew
theorem ha_new (w : World) (a : Nat) (t : TypeId) : HA w a (w.alloc (.cells #[.int .u64 (hi a : Nat), .int .u64 (lo a : Nat)] t)) := by
  refine ⟨below_alloc _ _, ?_, ?_⟩ <;> simp [go_sem]
theorem cat2 (l1 l2 : List UInt8) : (ByteArray.mk l1.toArray ++ ByteArray.mk l2.toArray) = ⟨(l1 ++ l2).toArray⟩ := by
  apply ByteArray.ext
  simp [ByteArray.data_append]
theorem cat1 (l : List UInt8) (s : ByteArray) : (ByteArray.mk l.toArray ++ s) = ⟨(l ++ s.data.toList).toArray⟩ := by
  apply ByteArray.ext
  simp [ByteArray.data_append]
theorem catR (s : ByteArray) (l : List UInt8) : (s ++ ByteArray.mk l.toArray) = ⟨(s.data.toList ++ l).toArray⟩ := by
  apply ByteArray.ext
  simp [ByteArray.data_append]
/-! ### runs -/
def runO (s : ByteArray) : Bool := decide (s.size ≤ 65535)
def runV (s : ByteArray) : ByteArray := if runO s = true then ⟨(beL 2 s.size ++ s.data.toList).toArray⟩ else ⟨#[]⟩
def takeO (s : ByteArray) (a : Int) : Bool := cutO s a 2 && cutO s (a + 2) (getV 2 s a : Nat)
def takeV (s : ByteArray) (a : Int) : ByteArray := if takeO s a = true then cutV s (a + 2) (getV 2 s a : Nat) else ⟨#[]⟩
def takeE (s : ByteArray) (a : Int) : Int := if takeO s a = true then a + 2 + (getV 2 s a : Nat) else 0
theorem take_no {s : ByteArray} {a : Int} (h : takeO s a = false) : takeV s a = ⟨#[]⟩ ∧ takeE s a = 0 ∧ takeO s a = false := by
  unfold takeV takeE; rw [h]; exact ⟨rfl, rfl, rfl⟩
theorem take_no1 {s : ByteArray} {a : Int} (h : cutO s a 2 = false) : takeV s a = ⟨#[]⟩ ∧ takeE s a = 0 ∧ takeO s a = false := take_no (by unfold takeO; rw [h]; rfl)
theorem take_no2 {s : ByteArray} {a : Int} (h : cutO s (a + 2) (getV 2 s a : Nat) = false) : takeV s a = ⟨#[]⟩ ∧ takeE s a = 0 ∧ takeO s a = false := take_no (by unfold takeO; rw [h, Bool.and_false])
theorem take_yes {s : ByteArray} {a : Int} (h1 : cutO s a 2 = true) (h2 : cutO s (a + 2) (getV 2 s a : Nat) = true) : takeV s a = cutV s (a + 2) (getV 2 s a : Nat) ∧ takeE s a = a + 2 + (getV 2 s a : Nat) ∧ takeO s a = true := by
  have h : takeO s a = true := by unfold takeO; rw [h1, h2]; rfl
  unfold takeV takeE; rw [h]; exact ⟨rfl, rfl, rfl⟩
theorem cut_true {s : ByteArray} {a n : Int} (h : cutO s a n = true) : 0 ≤ a ∧ 0 ≤ n ∧ n ≤ (s.size : Int) - a := by
  unfold cutO at h; simpa using h
theorem cut_len {s : ByteArray} {a : Int} {n : Nat} (h : cutO s a n = true) : (cutV s a n).size = n := by
  have := cut_true h
  rw [cut_yes h, sub_size (by omega)]; rfl
/-! ### addresses -/
def getA (s : ByteArray) (a : Int) : Nat := beV (cutV s a 16).data.toList
theorem beV_append (l r : List UInt8) : beV (l ++ r) = beV l * 256 ^ r.length + beV r := by
  have F : ∀ (l r : List UInt8) (n : Nat), beF n (l ++ r) = beF (beF n l) r := by
    intro l
    induction l with
    | nil => intros; rfl
    | cons c l ih => intro r n; rw [List.cons_append, beF, beF, ih]
  have G : ∀ (r : List UInt8) (n : Nat), beF n r = n * 256 ^ r.length + beF 0 r := by
    intro r
    induction r with
    | nil => intro n; simp [beF]
    | cons c r ih =>
      intro n
      rw [beF, ih, beF, ih (0 * 256 + c.toNat), List.length_cons, Nat.pow_succ, Nat.add_mul, Nat.zero_mul, Nat.zero_add, Nat.mul_assoc, Nat.mul_comm 256 (256 ^ r.length), Nat.add_assoc]
  unfold beV
  rw [F, G]
theorem getA_fits (s : ByteArray) (a : Int) : Fits (getA s a) := by
  have h1 := getV_lt 16 s a
  exact h1
theorem getA_words (s : ByteArray) (a : Int) : (getV 8 (cutV s a 16) 0 : Nat) = hi (getA s a) ∧ (getV 8 (cutV s a 16) 8 : Nat) = lo (getA s a) := by
  cases h : cutO s a 16 with
  | false =>
    have e : cutV s a 16 = ⟨#[]⟩ := cut_no h
    unfold getA
    rw [e]
    exact ⟨rfl, rfl⟩
  | true =>
    have hl : (cutV s a 16).size = 16 := cut_len (n := 16) h
    have hl2 : (cutV s a 16).data.toList.length = 16 := hl
    have e0 : cutO (cutV s a 16) 0 (8 : Nat) = true := by unfold cutO; rw [hl]; rfl
    have e8 : cutO (cutV s a 16) 8 (8 : Nat) = true := by unfold cutO; rw [hl]; rfl
    unfold getV getA
    rw [cut_yes e0, cut_yes e8, sub_list, sub_list]
    generalize (cutV s a 16).data.toList = l at *
    have hr : (l.drop 8).length = 8 := by rw [List.length_drop, hl2]
    have t0 : (l.drop (0 : Int).toNat).take ((8 : Nat) : Int).toNat = l.take 8 := rfl
    have t8 : (l.drop (8 : Int).toNat).take ((8 : Nat) : Int).toNat = l.drop 8 := List.take_of_length_le (by show (l.drop 8).length ≤ 8; omega)
    rw [t0, t8]
    have e := beV_append (l.take 8) (l.drop 8)
    have b := beV_lt (l.drop 8)
    rw [List.take_append_drop, hr, show (256 : Nat) ^ 8 = 18446744073709551616 from rfl] at e
    rw [hr, show (256 : Nat) ^ 8 = 18446744073709551616 from rfl] at b
    rw [e]
    exact ⟨(hi_mk b).symm, (lo_mk b).symm⟩
/-! ### padding -/
theorem repeat_zero (c : Nat) : Lib.repeatL [0] c = List.replicate c 0 := by
  induction c with
  | zero => rfl
  | succ c ih => rw [Lib.repeatL, ih, List.replicate_succ]; rfl
def padV (s : ByteArray) (c : Nat) : ByteArray := ⟨(s.data.toList ++ List.replicate c 0).toArray⟩

set_option maxRecDepth 100000 in
theorem put16_any (x : Nat) (hx : x < 65536) (w : World) : Calls Try.prog 11 #[.int .u16 (x : Int)] w (Gives (St (beL 2 x)) w) := by
  have P := hide (fun W => put16_gen x hx W)
  go_enter Try.func11, Try.ntmps11
  go_wp2_with fail
  refine (P.out _).mono ?_
  rintro e w' ⟨rfl, hb⟩
  go_wp2
  go_ret
  exact ⟨rfl, hb⟩
set_option maxRecDepth 100000 in
theorem get16_any (s : ByteArray) (hs : s.size ≤ maxLen) {a : Int} (ha : I64 a) (w : World) : Calls Try.prog 21 #[.string s, .int .i64 a] w (Same (.tuple #[.int .u16 (getV 2 s a : Nat), .bool (cutO s a 2)]) w) := by
  have P := hide (fun W => get16_gen s hs ha W)
  have G := getV_lt 2 s a
  generalize getV 2 s a = v at *
  generalize cutO s a 2 = o at *
  go_enter Try.func21, Try.ntmps21
  go_wp2_with fail
  refine (P.out _).mono ?_
  rintro e w' ⟨rfl, rfl⟩
  go_wp2
  go_ret2
  exact ⟨congrArg Ending.returned (tup2 rfl rfl), rfl⟩

set_option maxRecDepth 100000 in
theorem put32_any (x : Nat) (hx : x < 4294967296) (w : World) : Calls Try.prog 13 #[.int .u32 (x : Int)] w (Gives (St (beL 4 x)) w) := by
  have P := hide (fun W => put32_gen x hx W)
  go_enter Try.func13, Try.ntmps13
  go_wp2_with fail
  refine (P.out _).mono ?_
  rintro e w' ⟨rfl, hb⟩
  go_wp2
  go_ret
  exact ⟨rfl, hb⟩
set_option maxRecDepth 100000 in
theorem get32_any (s : ByteArray) (hs : s.size ≤ maxLen) {a : Int} (ha : I64 a) (w : World) : Calls Try.prog 23 #[.string s, .int .i64 a] w (Same (.tuple #[.int .u32 (getV 4 s a : Nat), .bool (cutO s a 4)]) w) := by
  have P := hide (fun W => get32_gen s hs ha W)
  have G := getV_lt 4 s a
  generalize getV 4 s a = v at *
  generalize cutO s a 4 = o at *
  go_enter Try.func23, Try.ntmps23
  go_wp2_with fail
  refine (P.out _).mono ?_
  rintro e w' ⟨rfl, rfl⟩
  go_wp2
  go_ret2
  exact ⟨congrArg Ending.returned (tup2 rfl rfl), rfl⟩

set_option maxRecDepth 100000 in
theorem put64_any (x : Nat) (hx : x < 18446744073709551616) (w : World) : Calls Try.prog 15 #[.int .u64 (x : Int)] w (Gives (St (beL 8 x)) w) := by
  have P := hide (fun W => put64_gen x hx W)
  go_enter Try.func15, Try.ntmps15
  go_wp2_with fail
  refine (P.out _).mono ?_
  rintro e w' ⟨rfl, hb⟩
  go_wp2
  go_ret
  exact ⟨rfl, hb⟩
set_option maxRecDepth 100000 in
theorem get64_any (s : ByteArray) (hs : s.size ≤ maxLen) {a : Int} (ha : I64 a) (w : World) : Calls Try.prog 25 #[.string s, .int .i64 a] w (Same (.tuple #[.int .u64 (getV 8 s a : Nat), .bool (cutO s a 8)]) w) := by
  have P := hide (fun W => get64_gen s hs ha W)
  have G := getV_lt 8 s a
  generalize getV 8 s a = v at *
  generalize cutO s a 8 = o at *
  go_enter Try.func25, Try.ntmps25
  go_wp2_with fail
  refine (P.out _).mono ?_
  rintro e w' ⟨rfl, rfl⟩
  go_wp2
  go_ret2
  exact ⟨congrArg Ending.returned (tup2 rfl rfl), rfl⟩

set_option maxRecDepth 100000 in
set_option maxHeartbeats 1000000 in
theorem putAddr_any {a : Nat} (ha : Fits a) (w : World) : Calls Try.prog 17 #[A a] w (Gives (St (beL 16 a)) w) := by
  have PH := hide (fun W => put64_any (hi a) (hi_lt ha) W)
  have PL := hide (fun W => put64_any (lo a) (lo_lt a) W)
  have R := hide (beL_addr a)
  have NH := beL_length 8 (hi a)
  have NL := beL_length 8 (lo a)
  generalize beL 8 (hi a) = l1 at *
  generalize beL 8 (lo a) = l2 at *
  have N1 : ¬ 9223372036854775807 < l1.length + l2.length := by omega
  clear NH NL
  have H0 := HA.drew (ha_new w a 24)
  go_enter Try.func17, Try.ntmps17
  go_wp2_with fail
  refine wp_region_quiet (C := HA w a) (by kernel_rfl) (by kernel_rfl) H0 (wpQuiet_step (fun K0 hK0 => ?_))
  go_simp
  first | (with_reducible refine hK0 _ (wpQuiet_step (fun K1 hK1 => ?_))) | (with_reducible refine ⟨_, fun _ _ => rfl, hK0 _ (wpQuiet_step (fun K1 hK1 => ?_))⟩) | (rw [if_neg (by intro e; cases e)]; with_reducible refine hK0 _ (wpQuiet_step (fun K1 hK1 => ?_)))
  clear hK0 K0
  go_simp
  refine ⟨.int .u64 (hi a : Nat), fun W hW => ?_, hK1 _ (wpQuiet_step (fun K0 hK0 => ?_))⟩
  · (obtain ⟨_, u0, u1⟩ := hW; simp [go_sem, u0])
  clear hK1 K1
  go_simp
  refine ⟨.string ⟨l1.toArray⟩, fun W hW => ?_, hK0 _ (wpQuiet_step (fun K1 hK1 => ?_))⟩
  · exact (PH.out W).mono fun e w4 ⟨he, hb⟩ => ⟨he, HA.step hW hb⟩
  clear hK0 K0
  go_simp
  first | (with_reducible refine hK1 _ (wpQuiet_step (fun K0 hK0 => ?_))) | (with_reducible refine ⟨_, fun _ _ => rfl, hK1 _ (wpQuiet_step (fun K0 hK0 => ?_))⟩) | (rw [if_neg (by intro e; cases e)]; with_reducible refine hK1 _ (wpQuiet_step (fun K0 hK0 => ?_)))
  clear hK1 K1
  go_simp
  refine ⟨.int .u64 (lo a : Nat), fun W hW => ?_, hK0 _ (wpQuiet_step (fun K1 hK1 => ?_))⟩
  · (obtain ⟨_, u0, u1⟩ := hW; simp [go_sem, u1])
  clear hK0 K0
  go_simp
  refine ⟨.string ⟨l2.toArray⟩, fun W hW => ?_, hK1 _ (wpQuiet_step (fun K0 hK0 => ?_))⟩
  · exact (PL.out W).mono fun e w4 ⟨he, hb⟩ => ⟨he, HA.step hW hb⟩
  clear hK1 K1
  go_simp
  first | (with_reducible refine hK0 _ (wpQuiet_step (fun K1 hK1 => ?_))) | (with_reducible refine ⟨_, fun _ _ => rfl, hK0 _ (wpQuiet_step (fun K1 hK1 => ?_))⟩) | (rw [if_neg (by intro e; cases e)]; with_reducible refine hK0 _ (wpQuiet_step (fun K1 hK1 => ?_)))
  clear hK0 K0
  go_simp
  first | (with_reducible refine hK1 _ (wpQuiet_nil ?_)) | (with_reducible refine ⟨_, fun _ _ => rfl, hK1 _ (wpQuiet_nil ?_)⟩) | (rw [if_neg (by intro e; cases e)]; with_reducible refine hK1 _ (wpQuiet_nil ?_))
  clear hK1 K1
  intro w1 H1
  go_wp2
  go_ret
  refine ⟨?_, H1.1⟩
  rw [← R.out]
  exact congrArg (fun b => Ending.returned (.string b)) (cat2 l1 l2)

set_option maxRecDepth 100000 in
theorem run_any (s : ByteArray) (w : World) : Calls Try.prog 9 #[.string s] w (Gives (.tuple #[.string (runV s), .bool (runO s)]) w) := by
  by_cases h : s.size ≤ 65535
  · have K := hide (show runO s = true by unfold runO; simpa using h)
    have V := hide (show runV s = ⟨(beL 2 s.size ++ s.data.toList).toArray⟩ by unfold runV; rw [K.out, if_pos rfl])
    have P := hide (put16_any s.size (by omega))
    have L := beL_length 2 s.size
    generalize beL 2 s.size = l at *
    have N1 : ¬ 9223372036854775807 < l.length + s.size := by omega
    have h1 : ¬ (65535 : Int) < (s.size : Int) := by omega
    have W1 : IntKind.u16.wrap (s.size : Int) = (s.size : Int) := by rw [IntKind.wrap_u16]; omega
    clear L
    go_enter Try.func9, Try.ntmps9
    go_wp2_with fail
    refine (P.out _).mono ?_
    rintro e w' ⟨rfl, hb⟩
    go_wp2
    go_ret2
    exact ⟨congrArg Ending.returned (tup2 (by rw [V.out]; exact congrArg Value.string (cat1 l s)) (bool_eq K.out.symm)), hb⟩
  · have K := hide (show runO s = false by unfold runO; simpa using h)
    have V := hide (show runV s = ⟨#[]⟩ by unfold runV; rw [K.out]; rfl)
    have h1 : (65535 : Int) < (s.size : Int) := by omega
    clear h
    go_enter Try.func9, Try.ntmps9
    go_wp2
    go_ret2
    exact ⟨congrArg Ending.returned (tup2 (by rw [V.out]; rfl) (bool_eq K.out.symm)), Below.refl _ _⟩
set_option maxRecDepth 100000 in
theorem takeRun_any (s : ByteArray) (hs : s.size ≤ maxLen) {a : Int} (ha : I64 a) (w : World) :
    Calls Try.prog 31 #[.string s, .int .i64 a] w (Same (.tuple #[.string (takeV s a), .int .i64 (takeE s a), .bool (takeO s a)]) w) := by
  have G := hide (fun W => get16_any s hs ha W)
  cases h : cutO s a 2 with
  | false =>
    have K := hide (take_no1 h)
    rw [h, getV_no h] at G
    clear h
    go_enter Try.func31, Try.ntmps31
    go_wp2_with fail
    refine (G.out _).mono ?_
    rintro e w' ⟨rfl, rfl⟩
    go_wp2
    go_ret3
    exact ⟨congrArg Ending.returned (tup3 (by rw [K.out.1]; rfl) (by rw [K.out.2.1]; rfl) (bool_eq K.out.2.2.symm)), rfl⟩
  | true =>
    have B := getV_lt 2 s a
    obtain ⟨b1, b2, b3⟩ := cut_true h
    have hs2 := hs
    unfold maxLen at hs2
    have h2 : I64 (a + 2) := by unfold I64; omega
    have W1 : IntKind.i64.wrap (a + 2) = a + 2 := IntWalk.i64_in _ ⟨by omega, by omega⟩
    have C := hide (fun W => cut_any s hs h2 (show I64 (getV 2 s a : Nat) by unfold I64; omega) W)
    have K1 := hide (fun hh => take_no2 (s := s) (a := a) (h := hh))
    have K2 := hide (fun h1 h2 => take_yes (s := s) (a := a) h1 h2)
    rw [h] at G
    have K3 := hide (K2.out h)
    clear h K2
    cases h : cutO s (a + 2) (getV 2 s a : Nat) with
    | false =>
      have K := hide (K1.out h)
      rw [h, cut_no h] at C
      clear h K1 K3
      generalize getV 2 s a = n at *
      go_enter Try.func31, Try.ntmps31
      go_wp2_with fail
      refine (G.out _).mono ?_
      rintro e w' ⟨rfl, rfl⟩
      go_wp2_with fail
      refine (C.out _).mono ?_
      rintro e w' ⟨rfl, rfl⟩
      go_wp2
      go_ret3
      exact ⟨congrArg Ending.returned (tup3 (by rw [K.out.1]; rfl) (by rw [K.out.2.1]; rfl) (bool_eq K.out.2.2.symm)), rfl⟩
    | true =>
      have K := hide (K3.out h)
      have Z := cut_len h
      obtain ⟨d1, d2, d3⟩ := cut_true h
      have W2 : IntKind.i64.wrap (a + 2 + (getV 2 s a : Nat)) = a + 2 + (getV 2 s a : Nat) := IntWalk.i64_in _ ⟨by omega, by omega⟩
      rw [h] at C
      clear h K1 K3
      generalize getV 2 s a = n at *
      generalize cutV s (a + 2) n = p at *
      have Z2 := hide Z
      clear Z
      go_enter Try.func31, Try.ntmps31
      go_wp2_with fail
      refine (G.out _).mono ?_
      rintro e w' ⟨rfl, rfl⟩
      go_wp2_with fail
      refine (C.out _).mono ?_
      rintro e w' ⟨rfl, rfl⟩
      have Z3 := Z2.out
      go_wp2
      go_ret3
      exact ⟨congrArg Ending.returned (tup3 (by rw [K.out.1]; rfl) (by rw [K.out.2.1]; rfl) (bool_eq K.out.2.2.symm)), rfl⟩

set_option maxRecDepth 100000 in
set_option maxHeartbeats 1000000 in
theorem getAddr_any (s : ByteArray) (hs : s.size ≤ maxLen) {a : Int} (ha : I64 a) (w : World) : Calls Try.prog 27 #[.string s, .int .i64 a] w (Gives (.tuple #[A (getA s a), .bool (cutO s a 16)]) w) := by
  have C := hide (fun W => cut_any s hs ha (show I64 16 by unfold I64; omega) W)
  have hp : (cutV s a 16).size ≤ maxLen := Nat.le_trans (cut_size_le (S := 16)) (by unfold maxLen; omega)
  have G0 := hide (fun W => get64_any (cutV s a 16) hp (a := 0) (by unfold I64; omega) W)
  have G8 := hide (fun W => get64_any (cutV s a 16) hp (a := 8) (by unfold I64; omega) W)
  have R := hide (getA_words s a)
  rw [R.out.1] at G0
  rw [R.out.2] at G8
  clear hp R
  generalize getA s a = v at *
  generalize cutO s a 16 = o at *
  generalize cutV s a 16 = p at *
  generalize cutO p 0 8 = o0 at *
  generalize cutO p 8 8 = o8 at *
  go_enter Try.func27, Try.ntmps27
  go_wp2_with fail
  refine (C.out _).mono ?_
  rintro e w' ⟨rfl, rfl⟩
  go_wp2_with fail
  refine (G0.out _).mono ?_
  rintro e w' ⟨rfl, rfl⟩
  go_wp2_with fail
  refine (G8.out _).mono ?_
  rintro e w' ⟨rfl, rfl⟩
  go_wp2
  refine bodyPost_ret (v := .tuple #[A v, .bool o]) ?_ rfl ⟨rfl, below_alloc _ _⟩
  simp [results, Try.results27, go_sem]

set_option maxRecDepth 100000 in
theorem pad_yes (s : ByteArray) (c : Nat) (hc : s.size + c ≤ 2147483647) (w : World) :
    Calls Try.prog 19 #[.string s, .int .i64 ((s.size + c : Nat) : Int)] w (Gives (.tuple #[.string (padV s c), .bool true]) w) := by
  have P := hide (fun W => Try.strings_Repeat ⟨#[0]⟩ c W (by omega) (show 1 * c ≤ 140737488355328 by omega))
  have R := hide (show Lib.repeatL [0] c = List.replicate c 0 from repeat_zero c)
  rw [show (ByteArray.mk #[0]).data.toList = [0] from rfl, R.out] at P
  have L : (List.replicate c (0 : UInt8)).length = c := List.length_replicate
  have V := hide (show padV s c = ⟨(s.data.toList ++ List.replicate c 0).toArray⟩ from rfl)
  generalize List.replicate c (0 : UInt8) = l at *
  have N1 : ¬ 9223372036854775807 < s.size + l.length := by omega
  obtain ⟨m, hm⟩ : ∃ m : Nat, m = s.size + c := ⟨_, rfl⟩
  rw [← hm]
  have h1 : ¬ (m : Int) < (s.size : Int) := by omega
  have h2 : ¬ (2147483647 : Int) < (m : Int) := by omega
  have E : (m : Int) - (s.size : Int) = (c : Int) := by omega
  clear L R hm
  go_enter Try.func19, Try.ntmps19
  go_wp2_with fail
  refine (P.out _).mono ?_
  rintro e w' ⟨rfl, hb⟩
  go_wp2
  go_ret2
  exact ⟨congrArg Ending.returned (tup2 (by rw [V.out]; exact congrArg Value.string (catR s l)) rfl), hb⟩
set_option maxRecDepth 100000 in
theorem pad_no (s : ByteArray) {n : Int} (h : n < (s.size : Int)) (w : World) :
    Calls Try.prog 19 #[.string s, .int .i64 n] w (Gives (.tuple #[.string ⟨#[]⟩, .bool false]) w) := by
  go_enter Try.func19, Try.ntmps19
  go_wp2
  go_ret2
  exact ⟨rfl, Below.refl _ _⟩
end Go.Proofs.Ytnbdldnbfhdhdaa
