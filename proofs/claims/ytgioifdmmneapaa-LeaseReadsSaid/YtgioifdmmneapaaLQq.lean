/-
  The document's own reading of one change: a right that has gone. Conditions: the bytes are no longer than an int; the place is one of them, or the end, and below 2^40.
-/
import Derived.Test.YtgioifdmmneapaaLQp
namespace Go.Proofs.Ytgioifdmmneapaa
open Go.RowKit Go.Joins

set_option maxRecDepth 100000 in
set_option maxHeartbeats 3000000 in
theorem one_d {s : ByteArray} (hs : s.size ≤ maxLen) {a : Nat} (ha : a ≤ s.size) (hb : a ≤ 1099511627776) (w : World) (h : 19 ≤ (Rst s a).length) (h1 : getV 1 s (a : Int) = 2) :
    Calls Try.prog 50 #[.string s, .int .i64 (a : Nat)] w (One w s a) := by
  have CE := hide (one_gone ha h h1)
  have C1 := hide (fun W => cut_ref s hs (show I64 (a : Int) by unfold I64; omega) (show I64 1 by unfold I64; omega) W)
  have e1 : cutO s (a : Int) 1 = true := by
    have := cut_rst ha 0 1
    rw [Nat.zero_add, Nat.add_zero] at this
    exact this.trans (decide_eq_true (by omega))
  rw [e1] at C1
  obtain ⟨h0, hv⟩ : ∃ h0 : 0 < (cutV s (a : Int) 1).size, ((cutV s (a : Int) 1)[0]'h0).toNat = getV 1 s (a : Int) := cut_idx (s := s) (a := a) (k := 0) (n := 1) (i := 0) ha (by omega) (by omega)
  have h3 := h1
  rw [← hv] at h1
  generalize cutV s (a : Int) 1 = t at *
  have z1 : (0 : Int) < (t.size : Int) := by omega
  have m1 : (((t[0].toNat : Nat) : Int) != 1) = true := by rw [h1]; rfl
  have m2 : (((t[0].toNat : Nat) : Int) != 2) = false := by rw [h1]; rfl
  have m3 : (((t[0].toNat : Nat) : Int) == 2) = true := by rw [h1]; rfl
  have C2 := hide (fun W => (show Calls Try.prog 79 #[.string s, .int .i64 ((a : Int) + 1), .int .i64 2] W (Same (.tuple #[.string (cutV s ((a + 1 : Nat) : Int) ((2 : Nat) : Int)), .bool (cutO s ((a + 1 : Nat) : Int) ((2 : Nat) : Int))]) W) from cut_ref s hs (show I64 ((a : Int) + 1) by unfold I64; omega) (show I64 2 by unfold I64; omega) W))
  have C3 := hide (fun W => (show Calls Try.prog 80 #[.string s, .int .i64 ((a : Int) + 3)] W (Gives (.tuple #[A (getA s ((a + 3 : Nat) : Int)), .bool (cutO s ((a + 3 : Nat) : Int) ((16 : Nat) : Int))]) W) from getAddr_ref s hs (show I64 ((a : Int) + 3) by unfold I64; omega) W))
  have e2 : cutO s ((a + 1 : Nat) : Int) ((2 : Nat) : Int) = true := (cut_rst ha 1 2).trans (decide_eq_true (by omega))
  have e3 : cutO s ((a + 3 : Nat) : Int) ((16 : Nat) : Int) = true := (cut_rst ha 3 16).trans (decide_eq_true (by omega))
  rw [e2] at C2
  rw [e3] at C3
  obtain ⟨u0, hu0⟩ : ∃ h0 : 0 < (cutV s ((a + 1 : Nat) : Int) ((2 : Nat) : Int)).size, ((cutV s ((a + 1 : Nat) : Int) ((2 : Nat) : Int))[0]'h0).toNat = getV 1 s ((a : Int) + 1) := cut_idx (s := s) (a := a) (k := 1) (n := 2) (i := 0) ha (by omega) (by omega)
  obtain ⟨u1, hu1⟩ : ∃ h0 : 1 < (cutV s ((a + 1 : Nat) : Int) ((2 : Nat) : Int)).size, ((cutV s ((a + 1 : Nat) : Int) ((2 : Nat) : Int))[1]'h0).toNat = getV 1 s ((a : Int) + 1 + 1) := cut_idx (s := s) (a := a) (k := 1) (n := 2) (i := 1) ha (by omega) (by omega)
  have hp : getA s ((a + 3 : Nat) : Int) = getA s ((a : Int) + 1 + 1 + 1) := rfl
  have CC := hide (show chC s (a : Int) = ⟨true, ⟨(((cutV s ((a + 1 : Nat) : Int) ((2 : Nat) : Int))[0]'u0).toNat : Nat), getA s ((a + 3 : Nat) : Int), (((cutV s ((a + 1 : Nat) : Int) ((2 : Nat) : Int))[1]'u1).toNat : Nat), 0, ⟨#[]⟩, 0, 0⟩⟩ by
    unfold chC hdL; rw [if_pos h3, hu0, hu1, hp])
  have CN := hide (show chN s (a : Int) = (a : Int) + 19 by unfold chN; rw [if_pos h3]; omega)
  clear hu0 hu1 hp
  generalize cutV s ((a + 1 : Nat) : Int) ((2 : Nat) : Int) = u at *
  generalize getA s ((a + 3 : Nat) : Int) = p at *
  have z2 : (0 : Int) < (u.size : Int) := by omega
  have z3 : (1 : Int) < (u.size : Int) := by omega
  have k0 : wrap64 (((u[0]'u0).toNat : Nat) : Int) = (((u[0]'u0).toNat : Nat) : Int) := by have := (u[0]'u0).toNat_lt; unfold wrap64; omega
  have k1 : wrap64 (((u[1]'u1).toNat : Nat) : Int) = (((u[1]'u1).toNat : Nat) : Int) := by have := (u[1]'u1).toNat_lt; unfold wrap64; omega
  have H0 : RZ w (w.alloc (.cells #[.bool false, .int .i64 0, .int .u64 0, .int .u64 0, .int .i64 0, .int .i64 0, .string ⟨#[]⟩, .int .u32 0, .int .i64 0] 31)) := ⟨below_alloc _ _, heap_alloc_new _ _⟩
  clear e1 e2 e3 h hv h1 h3
  go_enter Try.func50, Try.ntmps50
  go_wp2_with fail
  refine (C1.out _).mono ?_
  rintro e v ⟨rfl, rfl⟩
  go_wp2_with fail
  refine (C2.out _).mono ?_
  rintro e v ⟨rfl, rfl⟩
  go_wp2_with fail
  refine (C3.out _).mono ?_
  rintro e v ⟨rfl, hb3⟩
  have H1 := H0.step hb3
  have hne : w.heap.size < v.heap.size := by have := H1.1.size; have := lt_of_block H1.2; omega
  clear hb3 H0
  obtain ⟨⟨y0, y1, y2, y3, y4, y5, y6, y7, y8⟩, fy⟩ := H1.res
  go_wp2_with fail
  go_region
  go_wp2
  refine bodyPost_ret (v := .tuple #[Cv ⟨true, ⟨((u[0]'u0).toNat : Nat), p, ((u[1]'u1).toNat : Nat), 0, ⟨#[]⟩, 0, 0⟩⟩, .int .i64 ((a : Int) + 19), .int .i64 0]) (by simp [results, Try.results50, go_sem, y0, y1, y2, y3, y4, y5, y6, y7, y8, hne, k0, k1]) rfl ?_
  exact ⟨_, _, by rw [CE.out], fun _ => ⟨CC.out.symm, CN.out.symm⟩, ((below_nine1 H1.1 _ _ _ _ _ _ _ _ _ _).alloc (by simp; omega) _).drew⟩
end Go.Proofs.Ytgioifdmmneapaa
