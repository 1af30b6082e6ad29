/-
  The walk of OctetBack: it returns true. Conditions: the address's words are words of 64 bits; each text takes at most 2^47 bytes.
-/
import Derived.Test.YtnbdldnbfhdhdaaOctBm
namespace Go.Proofs.Ytnbdldnbfhdhdaa
open Go.RowKit Go.Joins

/-- the block g holds an address -/
def Bx (g a : Nat) (W : World) : Prop := W.cell? ⟨g, 0, none⟩ = some (.int .u64 (hi a : Nat)) ∧ W.cell? ⟨g, 1, none⟩ = some (.int .u64 (lo a : Nat))
theorem Bx.step {g a : Nat} {W w2 : World} (h : Bx g a W) (hb : Below W.heap.size W w2) : Bx g a w2 := ⟨keep_cell hb h.1, keep_cell hb h.2⟩
theorem bx_new (W : World) (a : Nat) (t : TypeId) : Bx W.heap.size a (W.alloc (.cells #[.int .u64 (hi a : Nat), .int .u64 (lo a : Nat)] t)) := by
  constructor <;> simp [go_sem]
theorem take_ext {l : List UInt8} {n : Nat} {t : ByteArray} (h : t = (ByteArray.mk l.toArray).extract 0 n) : t.data.toList = l.take n := by
  subst h
  rw [ByteArray.data_extract, Array.toList_extract, List.extract_eq_take_drop]
  simp
theorem size_ext {l : List UInt8} {n : Nat} (h : n ≤ l.length) : ((ByteArray.mk l.toArray).extract 0 n).size = n := by
  rw [ByteArray.size_extract, mk_size l]; omega

section
variable (a : Nat) (s h : ByteArray)
set_option maxRecDepth 100000 in
set_option maxHeartbeats 600000 in
theorem back_walk (ha : Fits a) (hs : s.size ≤ 65536) (hh : h.size ≤ 140737488351232) (w : World) :
    Calls Try.prog 5 #[A a, .string s, .string h] w (Gives (.bool true) w) := by
  have ML : ∀ n : Nat, n ≤ 1000000000000000 → n ≤ maxLen := fun n hn => by unfold maxLen; omega
  have HI : I64 (h.size : Int) := by unfold I64; omega
  have PA := hide (fun W => putAddr_any ha W)
  have L0 := beL_length 16 a
  have G1 := hide (fun W => via (getAddr_any (h ++ ⟨(beL 16 a).toArray⟩ ++ s) (ML _ (by rw [cat_size, cat_size, mk_size (beL 16 a)]; omega)) HI W) (v' := .tuple #[A a, .bool true]) (by rw [(back_addr h s ha).1, (back_addr h s ha).2]))
  have G2 := hide (fun (t : ByteArray) (ht : t.size = 15) W => via (getAddr_any (h ++ t) (ML _ (by rw [cat_size]; omega)) HI W) (v' := .tuple #[A 0, .bool false]) (by
    have e : cutO (h ++ t) (h.size : Int) 16 = false := back_short (n := 16) (by omega)
    rw [getA_no e, e]))
  have G3 := hide (fun W => viaS (get64_any (h ++ ⟨(beL 16 a).toArray⟩) (ML _ (by rw [cat_size, mk_size (beL 16 a)]; omega)) (a := (h.size : Int) + 8) (by unfold I64; omega) W) (v' := .tuple #[.int .u64 (lo a : Nat), .bool true]) (by rw [(back_low h a).1, (back_low h a).2]))
  obtain ⟨x, ex⟩ : ∃ x : Nat, x = lo a % 4294967296 := ⟨_, rfl⟩
  obtain ⟨y, ey⟩ : ∃ y : Nat, y = hi a % 65536 := ⟨_, rfl⟩
  have xb : x < 4294967296 := by omega
  have yb : y < 65536 := by omega
  have EX : (lo a : Int) % 4294967296 = (x : Int) := by omega
  have EY : IntKind.u16.wrap (hi a : Int) = (y : Int) := by rw [IntKind.wrap_u16]; omega
  have P4 := hide (fun W => put32_any x xb W)
  have P2 := hide (fun W => put16_any y yb W)
  have L4 := beL_length 4 x
  have L2 := beL_length 2 y
  have G4 := hide (fun W => viaS (get32_any (h ++ ⟨(beL 4 x).toArray⟩ ++ s) (ML _ (by rw [cat_size, cat_size, mk_size (beL 4 x)]; omega)) HI W) (v' := .tuple #[.int .u32 (x : Nat), .bool true]) (by rw [(back_num 4 h s (x := x) (by omega)).1, show ((4 : Int)) = ((4 : Nat) : Int) from rfl, (back_num 4 h s (x := x) (by omega)).2]))
  have G5 := hide (fun W => viaS (get16_any (h ++ ⟨(beL 2 y).toArray⟩ ++ s) (ML _ (by rw [cat_size, cat_size, mk_size (beL 2 y)]; omega)) HI W) (v' := .tuple #[.int .u16 (y : Nat), .bool true]) (by rw [(back_num 2 h s (x := y) (by omega)).1, show ((2 : Int)) = ((2 : Nat) : Int) from rfl, (back_num 2 h s (x := y) (by omega)).2]))
  have RN := hide (fun W => run_any s W)
  have RL := runL_len s
  have T1 := hide (fun (hk : s.size ≤ 65535) W => viaS (takeRun_any (h ++ ⟨(runL s).toArray⟩ ++ h) (ML _ (by rw [cat_size, cat_size, mk_size (runL s)]; omega)) HI W) (v' := .tuple #[.string s, .int .i64 ((h.size : Int) + 2 + (s.size : Int)), .bool true]) (by rw [(back_run h h s hk).1, (back_run h h s hk).2.1, (back_run h h s hk).2.2]))
  have T2 := hide (fun (hk : s.size ≤ 65535) (t : ByteArray) (ht : t.data.toList = (runL s).take (s.size + 1)) W => viaS (takeRun_any (h ++ t) (ML _ (by rw [cat_size, ← list_size t, ht, List.length_take]; omega)) HI W) (v' := .tuple #[.string ⟨#[]⟩, .int .i64 0, .bool false]) (by rw [(back_cut (h := h) ht hk).1, (back_cut (h := h) ht hk).2.1, (back_cut (h := h) ht hk).2.2]))
  have RY := hide (run_yes (s := s))
  have RNo := hide (run_no (s := s))
  clear ex ey xb yb ML
  generalize beL 16 a = l at *
  generalize beL 4 x = l4 at *
  generalize beL 2 y = l2 at *
  generalize runL s = r at *
  have N0 : ¬ 9223372036854775807 < h.size + l.length := by omega
  have N1 : ¬ 9223372036854775807 < h.size + l.length + s.size := by omega
  have N2 : ¬ 9223372036854775807 < h.size + 15 := by omega
  have N3 : ¬ 9223372036854775807 < h.size + l4.length := by omega
  have N4 : ¬ 9223372036854775807 < h.size + l4.length + s.size := by omega
  have N5 : ¬ 9223372036854775807 < h.size + l2.length := by omega
  have N6 : ¬ 9223372036854775807 < h.size + l2.length + s.size := by omega
  have N7 : ¬ 9223372036854775807 < h.size + r.length := by omega
  have N8 : ¬ 9223372036854775807 < h.size + r.length + h.size := by omega
  have N9 : ¬ 9223372036854775807 < h.size + (s.size + 1) := by omega
  have hsI : ¬ (65536 : Int) < (s.size : Int) := by omega
  have H0 := ha_new w a 24
  go_enter Try.func5, Try.ntmps5
  go_wp2_with fail
  refine (awake_any _).mono ?_
  rintro e w1 ⟨rfl, hb1⟩
  have H1 := HA.step H0 hb1
  clear H0 hb1
  obtain ⟨z0, c0, c1⟩ := id H1
  clear z0
  go_wp2_with fail
  refine (PA.out _).mono ?_
  rintro e w2 ⟨rfl, hb2⟩
  have H2 := HA.step H1 hb2
  clear H1 hb2 c0 c1
  obtain ⟨z0, c0, c1⟩ := id H2
  clear z0
  go_wp2_with fail
  refine (G1.out _).mono ?_
  rintro e w3 ⟨rfl, hb3⟩
  have H3 := HA.step H2 hb3
  clear H2 hb3 c0 c1
  have X3 := bx_new w3 a 24
  go_wp2_with fail
  refine (G2.out _ (size_ext (by omega)) _).mono ?_
  rintro e w4 ⟨rfl, hb4⟩
  have H4 := HA.step (HA.step H3 (below_alloc w3 _)) hb4
  have X4 := X3.step hb4
  clear H3 hb4 X3
  have H5 := HA.step H4 (below_alloc w4 (.cells #[.int .u64 (hi 0 : Nat), .int .u64 (lo 0 : Nat)] 24))
  have X5 := X4.step (below_alloc w4 (.cells #[.int .u64 (hi 0 : Nat), .int .u64 (lo 0 : Nat)] 24))
  clear H4 X4
  go_wp2_with fail
  refine (G3.out _).mono ?_
  rintro e w5 ⟨rfl, hw5⟩
  rw [hw5] at H5 X5
  clear hw5
  obtain ⟨z0, c0, c1⟩ := id H5
  clear z0
  go_wp2_with fail
  refine (P4.out _).mono ?_
  rintro e w6 ⟨rfl, hb6⟩
  have H6 := HA.step H5 hb6
  have X6 := X5.step hb6
  clear H5 hb6 X5 c0 c1
  obtain ⟨z0, c0, c1⟩ := id H6
  clear z0
  go_wp2_with fail
  refine (G4.out _).mono ?_
  rintro e w' ⟨rfl, rfl⟩
  go_wp2_with fail
  refine (P2.out _).mono ?_
  rintro e w7 ⟨rfl, hb7⟩
  have H7 := HA.step H6 hb7
  have X7 := X6.step hb7
  clear H6 hb7 X6 c0 c1
  obtain ⟨z0, c0, c1⟩ := id H7
  obtain ⟨x0, x1⟩ := id X7
  clear z0
  go_wp2_with fail
  refine (G5.out _).mono ?_
  rintro e w' ⟨rfl, rfl⟩
  go_wp2_with fail
  refine (RN.out _).mono ?_
  rintro e w8 ⟨rfl, hb8⟩
  have H8 := HA.step H7 hb8
  clear H7 hb8 X7 c0 c1 x0 x1
  by_cases hk : s.size ≤ 65535
  · have K := hide (RY.out hk)
    have T1 := hide (T1.out hk)
    have T2 := hide (T2.out hk)
    rw [K.out.1, K.out.2]
    go_wp2_with fail
    with_reducible refine (T1.out _).mono ?_
    rintro e w' ⟨rfl, rfl⟩
    go_wp2_with fail
    with_reducible refine (T2.out _ ?ht _).mono ?_
    case ht => refine (take_ext rfl).trans (congrArg (List.take · r) (by first | omega | rfl | (simp; done)))
    rintro e w' ⟨rfl, rfl⟩
    go_wp2
    go_ret
    exact ⟨rfl, H8.1⟩
  · have K := hide (RNo.out hk)
    have E : (s.size : Int) = 65536 := by omega
    rw [K.out.1, K.out.2]
    go_wp2
    go_ret
    exact ⟨rfl, H8.1⟩
set_option maxRecDepth 100000 in
theorem back_far (hs : 65536 < s.size) (w : World) :
    Calls Try.prog 5 #[A a, .string s, .string h] w (Gives (.bool true) w) := by
  have hsI : (65536 : Int) < (s.size : Int) := by omega
  have H0 := ha_new w a 24
  go_enter Try.func5, Try.ntmps5
  go_wp2_with fail
  refine (awake_any _).mono ?_
  rintro e w1 ⟨rfl, hb1⟩
  have H1 := HA.step H0 hb1
  clear H0 hb1
  go_wp2_with fail
  refine (awake_any _).mono ?_
  rintro e w2 ⟨rfl, hb2⟩
  have H2 := HA.step H1 hb2
  clear H1 hb2
  go_wp2
  go_ret
  exact ⟨rfl, H2.1⟩
theorem back_any (ha : Fits a) (hh : h.size ≤ 140737488351232) (w : World) :
    Calls Try.prog 5 #[A a, .string s, .string h] w (Gives (.bool true) w) := by
  by_cases hs : s.size ≤ 65536
  · exact back_walk a s h ha hs hh w
  · exact back_far a s h (by omega) w
end
end Go.Proofs.Ytnbdldnbfhdhdaa
