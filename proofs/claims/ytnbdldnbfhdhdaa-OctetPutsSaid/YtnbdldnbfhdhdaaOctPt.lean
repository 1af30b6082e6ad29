/-
  The walk of OctetPuts: it returns true. Conditions: the address's words are words of 64 bits; an int is an int of 64 bits; a string is no longer than an int.
-/
import Derived.Test.YtnbdldnbfhdhdaaOctPd
import Derived.Test.YtnbdldnbfhdhdaaOctK
namespace Go.Proofs.Ytnbdldnbfhdhdaa
open Go.RowKit Go.Joins

set_option maxRecDepth 100000 in
set_option maxHeartbeats 2000000 in
theorem puts_front {a : Nat} (ha : Fits a) (s : ByteArray) (n : Int) (w : World)
    (fin : ∀ W, Below w.heap.size w W → (1048576 < n ∨ ∃ p o, (∀ W2, Calls Try.prog 19 #[.string s, .int .i64 n] W2 (Gives (.tuple #[.string p, .bool o]) W2)) ∧ (∀ W2, Calls Try.prog 20 #[.string s, .int .i64 n] W2 (Gives (.tuple #[.string p, .bool o]) W2)))) :
    Calls Try.prog 3 #[A a, .string s, .int .i64 n] w (Gives (.bool true) w) := by
  have F := hide (fin w (Below.refl _ _))
  clear fin
  obtain ⟨x, ex⟩ : ∃ x : Nat, x = lo a % 4294967296 := ⟨_, rfl⟩
  obtain ⟨y, ey⟩ : ∃ y : Nat, y = lo a % 65536 := ⟨_, rfl⟩
  have xb : x < 4294967296 := by omega
  have yb : y < 65536 := by omega
  have EX : IntKind.u32.wrap (lo a : Int) = (x : Int) := by rw [IntKind.wrap_u32]; omega
  have EY : IntKind.u16.wrap (lo a : Int) = (y : Int) := by rw [IntKind.wrap_u16]; omega
  have P2 := hide (fun W => put16_any y yb W)
  have R2 := hide (fun W => put16_ref y yb W)
  have P4 := hide (fun W => put32_any x xb W)
  have R4 := hide (fun W => put32_ref x xb W)
  have P8 := hide (fun W => put64_any (hi a) (hi_lt ha) W)
  have R8 := hide (fun W => put64_ref (hi a) (hi_lt ha) W)
  have PA := hide (fun W => putAddr_any ha W)
  have RA := hide (fun W => putAddr_ref ha W)
  have PR := hide (fun W => run_any s W)
  have RR := hide (fun W => run_ref s W)
  clear ex ey xb yb
  generalize beL 16 a = l at *
  generalize beL 8 (hi a) = l8 at *
  generalize beL 4 x = l4 at *
  generalize beL 2 y = l2 at *
  generalize runV s = rv at *
  generalize runO s = ro at *
  have H0 := ha_new w a 24
  go_enter Try.func3, Try.ntmps3
  go_wp2_with fail
  refine (awake_any _).mono ?_
  rintro e w1 ⟨rfl, hb1⟩
  have H1 := HA.step H0 hb1
  clear H0 hb1
  go_wp2_with fail
  refine (PR.out _).mono ?_
  rintro e w2 ⟨rfl, hb2⟩
  have H2 := HA.step H1 hb2
  clear H1 hb2
  go_wp2_with fail
  refine (RR.out _).mono ?_
  rintro e w3 ⟨rfl, hb3⟩
  have H3 := HA.drew (HA.step H2 hb3)
  clear H2 hb3
  go_wp2_with fail
  refine wp_region_quiet (C := HA w a) (by kernel_rfl) (by kernel_rfl) H3 (wpQuiet_step (fun K0 hK0 => ?_))
  go_simp
  first | (with_reducible refine hK0 _ (wpQuiet_step (fun K1 hK1 => ?_))) | (with_reducible refine ⟨_, fun _ _ => rfl, hK0 _ (wpQuiet_step (fun K1 hK1 => ?_))⟩) | (rw [if_neg (by intro e; cases e)]; with_reducible refine hK0 _ (wpQuiet_step (fun K1 hK1 => ?_)))
  clear hK0 K0
  go_simp
  first | (with_reducible refine hK1 _ (wpQuiet_step (fun K0 hK0 => ?_))) | (with_reducible refine ⟨_, fun _ _ => rfl, hK1 _ (wpQuiet_step (fun K0 hK0 => ?_))⟩) | (rw [if_neg (by intro e; cases e)]; with_reducible refine hK1 _ (wpQuiet_step (fun K0 hK0 => ?_)))
  clear hK1 K1
  go_simp
  first | (with_reducible refine hK0 _ (wpQuiet_step (fun K1 hK1 => ?_))) | (with_reducible refine ⟨_, fun _ _ => rfl, hK0 _ (wpQuiet_step (fun K1 hK1 => ?_))⟩) | (rw [if_neg (by intro e; cases e)]; with_reducible refine hK0 _ (wpQuiet_step (fun K1 hK1 => ?_)))
  clear hK0 K0
  go_simp
  first | (with_reducible refine hK1 _ (wpQuiet_step (fun K0 hK0 => ?_))) | (with_reducible refine ⟨_, fun _ _ => rfl, hK1 _ (wpQuiet_step (fun K0 hK0 => ?_))⟩) | (rw [if_neg (by intro e; cases e)]; with_reducible refine hK1 _ (wpQuiet_step (fun K0 hK0 => ?_)))
  clear hK1 K1
  go_simp
  first | (with_reducible refine hK0 _ (wpQuiet_step (fun K1 hK1 => ?_))) | (with_reducible refine ⟨_, fun _ _ => rfl, hK0 _ (wpQuiet_step (fun K1 hK1 => ?_))⟩) | (rw [if_neg (by intro e; cases e)]; with_reducible refine hK0 _ (wpQuiet_step (fun K1 hK1 => ?_)))
  clear hK0 K0
  go_simp
  first | (with_reducible refine hK1 _ (wpQuiet_step (fun K0 hK0 => ?_))) | (with_reducible refine ⟨_, fun _ _ => rfl, hK1 _ (wpQuiet_step (fun K0 hK0 => ?_))⟩) | (rw [if_neg (by intro e; cases e)]; with_reducible refine hK1 _ (wpQuiet_step (fun K0 hK0 => ?_)))
  clear hK1 K1
  go_simp
  first | (with_reducible refine hK0 _ (wpQuiet_step (fun K1 hK1 => ?_))) | (with_reducible refine ⟨_, fun _ _ => rfl, hK0 _ (wpQuiet_step (fun K1 hK1 => ?_))⟩) | (rw [if_neg (by intro e; cases e)]; with_reducible refine hK0 _ (wpQuiet_step (fun K1 hK1 => ?_)))
  clear hK0 K0
  go_simp
  first | (with_reducible refine hK1 _ (wpQuiet_step (fun K0 hK0 => ?_))) | (with_reducible refine ⟨_, fun _ _ => rfl, hK1 _ (wpQuiet_step (fun K0 hK0 => ?_))⟩) | (rw [if_neg (by intro e; cases e)]; with_reducible refine hK1 _ (wpQuiet_step (fun K0 hK0 => ?_)))
  clear hK1 K1
  go_simp
  first | (with_reducible refine hK0 _ (wpQuiet_step (fun K1 hK1 => ?_))) | (with_reducible refine ⟨_, fun _ _ => rfl, hK0 _ (wpQuiet_step (fun K1 hK1 => ?_))⟩) | (rw [if_neg (by intro e; cases e)]; with_reducible refine hK0 _ (wpQuiet_step (fun K1 hK1 => ?_)))
  clear hK0 K0
  go_simp
  first | (with_reducible refine hK1 _ (wpQuiet_step (fun K0 hK0 => ?_))) | (with_reducible refine ⟨_, fun _ _ => rfl, hK1 _ (wpQuiet_step (fun K0 hK0 => ?_))⟩) | (rw [if_neg (by intro e; cases e)]; with_reducible refine hK1 _ (wpQuiet_step (fun K0 hK0 => ?_)))
  clear hK1 K1
  go_simp
  refine ⟨.int .u64 (lo a : Nat), fun W hW => ?_, hK0 _ (wpQuiet_step (fun K1 hK1 => ?_))⟩
  · (obtain ⟨_, u0, u1⟩ := hW; simp [go_sem, u1])
  clear hK0 K0
  go_simp
  first | (with_reducible refine hK1 _ (wpQuiet_step (fun K0 hK0 => ?_))) | (with_reducible refine ⟨_, fun _ _ => rfl, hK1 _ (wpQuiet_step (fun K0 hK0 => ?_))⟩) | (rw [if_neg (by intro e; cases e)]; with_reducible refine hK1 _ (wpQuiet_step (fun K0 hK0 => ?_)))
  clear hK1 K1
  go_simp
  refine ⟨.string ⟨l2.toArray⟩, fun W hW => ?_, hK0 _ (wpQuiet_step (fun K1 hK1 => ?_))⟩
  · exact (P2.out W).mono fun e w4 ⟨he, hb⟩ => ⟨he, HA.step hW hb⟩
  clear hK0 K0
  go_simp
  first | (with_reducible refine hK1 _ (wpQuiet_step (fun K0 hK0 => ?_))) | (with_reducible refine ⟨_, fun _ _ => rfl, hK1 _ (wpQuiet_step (fun K0 hK0 => ?_))⟩) | (rw [if_neg (by intro e; cases e)]; with_reducible refine hK1 _ (wpQuiet_step (fun K0 hK0 => ?_)))
  clear hK1 K1
  go_simp
  refine ⟨.int .u64 (lo a : Nat), fun W hW => ?_, hK0 _ (wpQuiet_step (fun K1 hK1 => ?_))⟩
  · (obtain ⟨_, u0, u1⟩ := hW; simp [go_sem, u1])
  clear hK0 K0
  go_simp
  first | (with_reducible refine hK1 _ (wpQuiet_step (fun K0 hK0 => ?_))) | (with_reducible refine ⟨_, fun _ _ => rfl, hK1 _ (wpQuiet_step (fun K0 hK0 => ?_))⟩) | (rw [if_neg (by intro e; cases e)]; with_reducible refine hK1 _ (wpQuiet_step (fun K0 hK0 => ?_)))
  clear hK1 K1
  go_simp
  refine ⟨.string ⟨l2.toArray⟩, fun W hW => ?_, hK0 _ (wpQuiet_step (fun K1 hK1 => ?_))⟩
  · exact (R2.out W).mono fun e w4 ⟨he, hb⟩ => ⟨he, HA.step hW hb⟩
  clear hK0 K0
  go_simp
  first | (with_reducible refine hK1 _ (wpQuiet_step (fun K0 hK0 => ?_))) | (with_reducible refine ⟨_, fun _ _ => rfl, hK1 _ (wpQuiet_step (fun K0 hK0 => ?_))⟩) | (rw [if_neg (by intro e; cases e)]; with_reducible refine hK1 _ (wpQuiet_step (fun K0 hK0 => ?_)))
  clear hK1 K1
  go_simp
  first | (with_reducible refine hK0 _ (wpQuiet_step (fun K1 hK1 => ?_))) | (with_reducible refine ⟨_, fun _ _ => rfl, hK0 _ (wpQuiet_step (fun K1 hK1 => ?_))⟩) | (rw [if_neg (by intro e; cases e)]; with_reducible refine hK0 _ (wpQuiet_step (fun K1 hK1 => ?_)))
  clear hK0 K0
  go_simp
  first | (with_reducible refine hK1 _ (wpQuiet_step (fun K0 hK0 => ?_))) | (with_reducible refine ⟨_, fun _ _ => rfl, hK1 _ (wpQuiet_step (fun K0 hK0 => ?_))⟩) | (rw [if_neg (by intro e; cases e)]; with_reducible refine hK1 _ (wpQuiet_step (fun K0 hK0 => ?_)))
  clear hK1 K1
  go_simp
  first | (with_reducible refine hK0 _ (wpQuiet_step (fun K1 hK1 => ?_))) | (with_reducible refine ⟨_, fun _ _ => rfl, hK0 _ (wpQuiet_step (fun K1 hK1 => ?_))⟩) | (rw [if_neg (by intro e; cases e)]; with_reducible refine hK0 _ (wpQuiet_step (fun K1 hK1 => ?_)))
  clear hK0 K0
  go_simp
  refine ⟨.int .u64 (lo a : Nat), fun W hW => ?_, hK1 _ (wpQuiet_step (fun K0 hK0 => ?_))⟩
  · (obtain ⟨_, u0, u1⟩ := hW; simp [go_sem, u1])
  clear hK1 K1
  go_simp
  first | (with_reducible refine hK0 _ (wpQuiet_step (fun K1 hK1 => ?_))) | (with_reducible refine ⟨_, fun _ _ => rfl, hK0 _ (wpQuiet_step (fun K1 hK1 => ?_))⟩) | (rw [if_neg (by intro e; cases e)]; with_reducible refine hK0 _ (wpQuiet_step (fun K1 hK1 => ?_)))
  clear hK0 K0
  go_simp
  refine ⟨.string ⟨l4.toArray⟩, fun W hW => ?_, hK1 _ (wpQuiet_step (fun K0 hK0 => ?_))⟩
  · exact (P4.out W).mono fun e w4 ⟨he, hb⟩ => ⟨he, HA.step hW hb⟩
  clear hK1 K1
  go_simp
  first | (with_reducible refine hK0 _ (wpQuiet_step (fun K1 hK1 => ?_))) | (with_reducible refine ⟨_, fun _ _ => rfl, hK0 _ (wpQuiet_step (fun K1 hK1 => ?_))⟩) | (rw [if_neg (by intro e; cases e)]; with_reducible refine hK0 _ (wpQuiet_step (fun K1 hK1 => ?_)))
  clear hK0 K0
  go_simp
  refine ⟨.int .u64 (lo a : Nat), fun W hW => ?_, hK1 _ (wpQuiet_step (fun K0 hK0 => ?_))⟩
  · (obtain ⟨_, u0, u1⟩ := hW; simp [go_sem, u1])
  clear hK1 K1
  go_simp
  first | (with_reducible refine hK0 _ (wpQuiet_step (fun K1 hK1 => ?_))) | (with_reducible refine ⟨_, fun _ _ => rfl, hK0 _ (wpQuiet_step (fun K1 hK1 => ?_))⟩) | (rw [if_neg (by intro e; cases e)]; with_reducible refine hK0 _ (wpQuiet_step (fun K1 hK1 => ?_)))
  clear hK0 K0
  go_simp
  refine ⟨.string ⟨l4.toArray⟩, fun W hW => ?_, hK1 _ (wpQuiet_step (fun K0 hK0 => ?_))⟩
  · exact (R4.out W).mono fun e w4 ⟨he, hb⟩ => ⟨he, HA.step hW hb⟩
  clear hK1 K1
  go_simp
  first | (with_reducible refine hK0 _ (wpQuiet_step (fun K1 hK1 => ?_))) | (with_reducible refine ⟨_, fun _ _ => rfl, hK0 _ (wpQuiet_step (fun K1 hK1 => ?_))⟩) | (rw [if_neg (by intro e; cases e)]; with_reducible refine hK0 _ (wpQuiet_step (fun K1 hK1 => ?_)))
  clear hK0 K0
  go_simp
  first | (with_reducible refine hK1 _ (wpQuiet_step (fun K0 hK0 => ?_))) | (with_reducible refine ⟨_, fun _ _ => rfl, hK1 _ (wpQuiet_step (fun K0 hK0 => ?_))⟩) | (rw [if_neg (by intro e; cases e)]; with_reducible refine hK1 _ (wpQuiet_step (fun K0 hK0 => ?_)))
  clear hK1 K1
  go_simp
  first | (with_reducible refine hK0 _ (wpQuiet_step (fun K1 hK1 => ?_))) | (with_reducible refine ⟨_, fun _ _ => rfl, hK0 _ (wpQuiet_step (fun K1 hK1 => ?_))⟩) | (rw [if_neg (by intro e; cases e)]; with_reducible refine hK0 _ (wpQuiet_step (fun K1 hK1 => ?_)))
  clear hK0 K0
  go_simp
  first | (with_reducible refine hK1 _ (wpQuiet_step (fun K0 hK0 => ?_))) | (with_reducible refine ⟨_, fun _ _ => rfl, hK1 _ (wpQuiet_step (fun K0 hK0 => ?_))⟩) | (rw [if_neg (by intro e; cases e)]; with_reducible refine hK1 _ (wpQuiet_step (fun K0 hK0 => ?_)))
  clear hK1 K1
  go_simp
  refine ⟨.int .u64 (hi a : Nat), fun W hW => ?_, hK0 _ (wpQuiet_step (fun K1 hK1 => ?_))⟩
  · (obtain ⟨_, u0, u1⟩ := hW; simp [go_sem, u0])
  clear hK0 K0
  go_simp
  refine ⟨.string ⟨l8.toArray⟩, fun W hW => ?_, hK1 _ (wpQuiet_step (fun K0 hK0 => ?_))⟩
  · exact (P8.out W).mono fun e w4 ⟨he, hb⟩ => ⟨he, HA.step hW hb⟩
  clear hK1 K1
  go_simp
  first | (with_reducible refine hK0 _ (wpQuiet_step (fun K1 hK1 => ?_))) | (with_reducible refine ⟨_, fun _ _ => rfl, hK0 _ (wpQuiet_step (fun K1 hK1 => ?_))⟩) | (rw [if_neg (by intro e; cases e)]; with_reducible refine hK0 _ (wpQuiet_step (fun K1 hK1 => ?_)))
  clear hK0 K0
  go_simp
  refine ⟨.int .u64 (hi a : Nat), fun W hW => ?_, hK1 _ (wpQuiet_step (fun K0 hK0 => ?_))⟩
  · (obtain ⟨_, u0, u1⟩ := hW; simp [go_sem, u0])
  clear hK1 K1
  go_simp
  refine ⟨.string ⟨l8.toArray⟩, fun W hW => ?_, hK0 _ (wpQuiet_step (fun K1 hK1 => ?_))⟩
  · exact (R8.out W).mono fun e w4 ⟨he, hb⟩ => ⟨he, HA.step hW hb⟩
  clear hK0 K0
  go_simp
  first | (with_reducible refine hK1 _ (wpQuiet_step (fun K0 hK0 => ?_))) | (with_reducible refine ⟨_, fun _ _ => rfl, hK1 _ (wpQuiet_step (fun K0 hK0 => ?_))⟩) | (rw [if_neg (by intro e; cases e)]; with_reducible refine hK1 _ (wpQuiet_step (fun K0 hK0 => ?_)))
  clear hK1 K1
  go_simp
  first | (with_reducible refine hK0 _ (wpQuiet_step (fun K1 hK1 => ?_))) | (with_reducible refine ⟨_, fun _ _ => rfl, hK0 _ (wpQuiet_step (fun K1 hK1 => ?_))⟩) | (rw [if_neg (by intro e; cases e)]; with_reducible refine hK0 _ (wpQuiet_step (fun K1 hK1 => ?_)))
  clear hK0 K0
  go_simp
  first | (with_reducible refine hK1 _ (wpQuiet_step (fun K0 hK0 => ?_))) | (with_reducible refine ⟨_, fun _ _ => rfl, hK1 _ (wpQuiet_step (fun K0 hK0 => ?_))⟩) | (rw [if_neg (by intro e; cases e)]; with_reducible refine hK1 _ (wpQuiet_step (fun K0 hK0 => ?_)))
  clear hK1 K1
  go_simp
  refine ⟨A a, fun W hW => ?_, hK0 _ (wpQuiet_step (fun K1 hK1 => ?_))⟩
  · (obtain ⟨_, u0, u1⟩ := hW; simp [go_sem, u0, u1])
  clear hK0 K0
  go_simp
  refine ⟨.string ⟨l.toArray⟩, fun W hW => ?_, hK1 _ (wpQuiet_step (fun K0 hK0 => ?_))⟩
  · exact (PA.out W).mono fun e w4 ⟨he, hb⟩ => ⟨he, HA.step hW hb⟩
  clear hK1 K1
  go_simp
  refine ⟨A a, fun W hW => ?_, hK0 _ (wpQuiet_step (fun K1 hK1 => ?_))⟩
  · (obtain ⟨_, u0, u1⟩ := hW; simp [go_sem, u0, u1])
  clear hK0 K0
  go_simp
  refine ⟨.string ⟨l.toArray⟩, fun W hW => ?_, hK1 _ (wpQuiet_step (fun K0 hK0 => ?_))⟩
  · exact (RA.out W).mono fun e w4 ⟨he, hb⟩ => ⟨he, HA.step hW hb⟩
  clear hK1 K1
  go_simp
  first | (with_reducible refine hK0 _ (wpQuiet_step (fun K1 hK1 => ?_))) | (with_reducible refine ⟨_, fun _ _ => rfl, hK0 _ (wpQuiet_step (fun K1 hK1 => ?_))⟩) | (rw [if_neg (by intro e; cases e)]; with_reducible refine hK0 _ (wpQuiet_step (fun K1 hK1 => ?_)))
  clear hK0 K0
  go_simp
  first | (with_reducible refine hK1 _ (wpQuiet_nil ?_)) | (with_reducible refine ⟨_, fun _ _ => rfl, hK1 _ (wpQuiet_nil ?_)⟩) | (rw [if_neg (by intro e; cases e)]; with_reducible refine hK1 _ (wpQuiet_nil ?_))
  clear hK1 K1
  intro w5 H5
  clear P2 R2 P4 R4 P8 R8 PA RA PR RR
  by_cases hbig : 1048576 < n
  · go_wp2
    go_ret
    exact ⟨rfl, H5.1⟩
  · obtain ⟨p, o, A1, A2⟩ := F.out.resolve_left hbig
    have A1 := hide A1
    have A2 := hide A2
    go_wp2_with fail
    refine (A1.out _).mono ?_
    rintro e w6 ⟨rfl, hb6⟩
    have H6 := HA.step H5 hb6
    clear H5 hb6
    go_wp2_with fail
    refine (A2.out _).mono ?_
    rintro e w7 ⟨rfl, hb7⟩
    have H7 := HA.step H6 hb7
    clear H6 hb7
    go_wp2
    go_ret
    exact ⟨rfl, H7.1⟩
theorem puts_any {a : Nat} (ha : Fits a) (s : ByteArray) (n : Int) (w : World) :
    Calls Try.prog 3 #[A a, .string s, .int .i64 n] w (Gives (.bool true) w) := by
  refine puts_front ha s n w (fun W _ => ?_)
  by_cases hbig : 1048576 < n
  · exact Or.inl hbig
  · right
    by_cases hn : n < (s.size : Int)
    · exact ⟨⟨#[]⟩, false, fun W2 => pad_no s hn W2, fun W2 => pad_ref_no s hn W2⟩
    · obtain ⟨c, hc⟩ : ∃ c : Nat, n = ((s.size + c : Nat) : Int) := ⟨(n - s.size).toNat, by omega⟩
      subst hc
      exact ⟨padV s c, true, fun W2 => pad_yes s c (by omega) W2, fun W2 => pad_ref_yes s c (by omega) W2⟩
end Go.Proofs.Ytnbdldnbfhdhdaa
