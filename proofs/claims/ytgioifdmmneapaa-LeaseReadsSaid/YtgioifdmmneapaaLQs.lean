/-
  The document's own reading of one change: a lease. Conditions: the bytes are no longer than an int; the place is one of them, or the end, and below 2^40.
-/
import Derived.Test.YtgioifdmmneapaaLQp
namespace Go.Proofs.Ytgioifdmmneapaa
open Go.RowKit Go.Joins

set_option maxRecDepth 100000 in
set_option maxHeartbeats 3000000 in
theorem one_f {s : ByteArray} (hs : s.size ≤ maxLen) {a : Nat} (ha : a ≤ s.size) (hb : a ≤ 1099511627776) (w : World) (h : 19 ≤ (Rst s a).length) (h1 : getV 1 s (a : Int) = 1) (h2 : 34 ≤ (Rst s a).length ∧ takeO s ((a + 32 : Nat) : Int) = true) :
    Calls Try.prog 50 #[.string s, .int .i64 (a : Nat)] w (One w s a) := by
  have CE := hide ((one_put ha h h1).trans (if_pos h2))
  have C1 := hide (fun W => cut_ref s hs (show I64 (a : Int) by unfold I64; omega) (show I64 1 by unfold I64; omega) W)
  have e1 : cutO s (a : Int) 1 = true := by
    have := cut_rst ha 0 1
    rw [Nat.zero_add, Nat.add_zero] at this
    exact this.trans (decide_eq_true (by omega))
  rw [e1] at C1
  obtain ⟨h0, hv⟩ : ∃ h0 : 0 < (cutV s (a : Int) 1).size, ((cutV s (a : Int) 1)[0]'h0).toNat = getV 1 s (a : Int) := cut_idx (s := s) (a := a) (k := 0) (n := 1) (i := 0) ha (by omega) (by omega)
  have h3 := h1
  rw [← hv] at h1
  generalize cutV s (a : Int) 1 = t at *
  have z1 : (0 : Int) < (t.size : Int) := by omega
  have m1 : (((t[0].toNat : Nat) : Int) != 1) = false := by rw [h1]; rfl
  have m2 : (((t[0].toNat : Nat) : Int) != 2) = true := by rw [h1]; rfl
  have m3 : (((t[0].toNat : Nat) : Int) == 2) = false := by rw [h1]; rfl
  have C2 := hide (fun W => (show Calls Try.prog 79 #[.string s, .int .i64 ((a : Int) + 1), .int .i64 2] W (Same (.tuple #[.string (cutV s ((a + 1 : Nat) : Int) ((2 : Nat) : Int)), .bool (cutO s ((a + 1 : Nat) : Int) ((2 : Nat) : Int))]) W) from cut_ref s hs (show I64 ((a : Int) + 1) by unfold I64; omega) (show I64 2 by unfold I64; omega) W))
  have C3 := hide (fun W => (show Calls Try.prog 80 #[.string s, .int .i64 ((a : Int) + 3)] W (Gives (.tuple #[A (getA s ((a + 3 : Nat) : Int)), .bool (cutO s ((a + 3 : Nat) : Int) ((16 : Nat) : Int))]) W) from getAddr_ref s hs (show I64 ((a : Int) + 3) by unfold I64; omega) W))
  have e2 : cutO s ((a + 1 : Nat) : Int) ((2 : Nat) : Int) = true := (cut_rst ha 1 2).trans (decide_eq_true (by omega))
  have e3 : cutO s ((a + 3 : Nat) : Int) ((16 : Nat) : Int) = true := (cut_rst ha 3 16).trans (decide_eq_true (by omega))
  rw [e2] at C2
  rw [e3] at C3
  obtain ⟨u0, hu0⟩ : ∃ h0 : 0 < (cutV s ((a + 1 : Nat) : Int) ((2 : Nat) : Int)).size, ((cutV s ((a + 1 : Nat) : Int) ((2 : Nat) : Int))[0]'h0).toNat = getV 1 s ((a : Int) + 1) := cut_idx (s := s) (a := a) (k := 1) (n := 2) (i := 0) ha (by omega) (by omega)
  obtain ⟨u1, hu1⟩ : ∃ h0 : 1 < (cutV s ((a + 1 : Nat) : Int) ((2 : Nat) : Int)).size, ((cutV s ((a + 1 : Nat) : Int) ((2 : Nat) : Int))[1]'h0).toNat = getV 1 s ((a : Int) + 1 + 1) := cut_idx (s := s) (a := a) (k := 1) (n := 2) (i := 1) ha (by omega) (by omega)
  have hp : getA s ((a + 3 : Nat) : Int) = getA s ((a : Int) + 1 + 1 + 1) := rfl
  have C4 := hide (fun W => (show Calls Try.prog 79 #[.string s, .int .i64 ((a : Int) + 19), .int .i64 1] W (Same (.tuple #[.string (cutV s ((a + 19 : Nat) : Int) ((1 : Nat) : Int)), .bool (cutO s ((a + 19 : Nat) : Int) ((1 : Nat) : Int))]) W) from cut_ref s hs (show I64 ((a : Int) + 19) by unfold I64; omega) (show I64 1 by unfold I64; omega) W))
  have C5 := hide (fun W => (show Calls Try.prog 81 #[.string s, .int .i64 ((a : Int) + 20)] W (Same (.tuple #[.int .u32 (getV 4 s ((a + 20 : Nat) : Int) : Nat), .bool (cutO s ((a + 20 : Nat) : Int) ((4 : Nat) : Int))]) W) from get32_ref s hs (show I64 ((a : Int) + 20) by unfold I64; omega) W))
  have C6 := hide (fun W => (show Calls Try.prog 82 #[.string s, .int .i64 ((a : Int) + 24)] W (Same (.tuple #[.int .u64 (getV 8 s ((a + 24 : Nat) : Int) : Nat), .bool (cutO s ((a + 24 : Nat) : Int) ((8 : Nat) : Int))]) W) from get64_ref s hs (show I64 ((a : Int) + 24) by unfold I64; omega) W))
  have C7 := hide (fun W => (show Calls Try.prog 83 #[.string s, .int .i64 ((a : Int) + 32)] W (Same (.tuple #[.string (takeV s ((a + 32 : Nat) : Int)), .int .i64 (takeE s ((a + 32 : Nat) : Int)), .bool (takeO s ((a + 32 : Nat) : Int))]) W) from takeRun_ref s hs (show I64 ((a : Int) + 32) by unfold I64; omega) W))
  have e4 : cutO s ((a + 19 : Nat) : Int) ((1 : Nat) : Int) = true := (cut_rst ha 19 1).trans (decide_eq_true (by omega))
  have e5 : cutO s ((a + 20 : Nat) : Int) ((4 : Nat) : Int) = true := (cut_rst ha 20 4).trans (decide_eq_true (by omega))
  have e6 : cutO s ((a + 24 : Nat) : Int) ((8 : Nat) : Int) = true := (cut_rst ha 24 8).trans (decide_eq_true (by omega))
  rw [e4] at C4
  rw [e5] at C5
  rw [e6] at C6
  rw [h2.2] at C7
  obtain ⟨x0, hx0⟩ : ∃ h0 : 0 < (cutV s ((a + 19 : Nat) : Int) ((1 : Nat) : Int)).size, ((cutV s ((a + 19 : Nat) : Int) ((1 : Nat) : Int))[0]'h0).toNat = getV 1 s ((a : Int) + 1 + 1 + 1 + 16) := cut_idx (s := s) (a := a) (k := 19) (n := 1) (i := 0) ha (by omega) (by omega)
  have hq1 : getV 4 s ((a + 20 : Nat) : Int) = getV 4 s ((a : Int) + 1 + 1 + 1 + 16 + 1) := by rw [p20]
  have hq2 : getV 8 s ((a + 24 : Nat) : Int) = getV 8 s ((a : Int) + 1 + 1 + 1 + 16 + 1 + 4) := by rw [p24]
  have hq3 : takeV s ((a + 32 : Nat) : Int) = takeV s ((a : Int) + 1 + 1 + 1 + 16 + 1 + 4 + 8) := by rw [p32]
  have hq4 : takeE s ((a + 32 : Nat) : Int) = takeE s ((a : Int) + 1 + 1 + 1 + 16 + 1 + 4 + 8) := by rw [p32]
  have hn2 : ¬ getV 1 s (a : Int) = 2 := by rw [h3]; decide
  have CC := hide (show chC s (a : Int) = ⟨false, ⟨(((cutV s ((a + 1 : Nat) : Int) ((2 : Nat) : Int))[0]'u0).toNat : Nat), getA s ((a + 3 : Nat) : Int), (((cutV s ((a + 1 : Nat) : Int) ((2 : Nat) : Int))[1]'u1).toNat : Nat), (((cutV s ((a + 19 : Nat) : Int) ((1 : Nat) : Int))[0]'x0).toNat : Nat), takeV s ((a + 32 : Nat) : Int), getV 4 s ((a + 20 : Nat) : Int), toI (getV 8 s ((a + 24 : Nat) : Int))⟩⟩ by
    unfold chC ptL; rw [if_neg hn2, hu0, hu1, hx0, hp, hq1, hq2, hq3])
  have CN := hide (show chN s (a : Int) = takeE s ((a + 32 : Nat) : Int) by unfold chN; rw [if_neg hn2, hq4])
  clear hu0 hu1 hp hx0 hq1 hq2 hq3 hq4
  generalize cutV s ((a + 1 : Nat) : Int) ((2 : Nat) : Int) = u at *
  generalize getA s ((a + 3 : Nat) : Int) = p at *
  have z2 : (0 : Int) < (u.size : Int) := by omega
  have z3 : (1 : Int) < (u.size : Int) := by omega
  have k0 : wrap64 (((u[0]'u0).toNat : Nat) : Int) = (((u[0]'u0).toNat : Nat) : Int) := by have := (u[0]'u0).toNat_lt; unfold wrap64; omega
  have k1 : wrap64 (((u[1]'u1).toNat : Nat) : Int) = (((u[1]'u1).toNat : Nat) : Int) := by have := (u[1]'u1).toNat_lt; unfold wrap64; omega
  generalize getV 4 s ((a + 20 : Nat) : Int) = ia at *
  generalize getV 8 s ((a + 24 : Nat) : Int) = un at *
  generalize takeV s ((a + 32 : Nat) : Int) = cl at *
  generalize takeE s ((a + 32 : Nat) : Int) = en at *
  generalize cutV s ((a + 19 : Nat) : Int) ((1 : Nat) : Int) = x at *
  have z4 : (0 : Int) < (x.size : Int) := by omega
  have k2 : wrap64 (((x[0]'x0).toNat : Nat) : Int) = (((x[0]'x0).toNat : Nat) : Int) := by have := (x[0]'x0).toNat_lt; unfold wrap64; omega
  have k3 : wrap64 (un : Int) = toI un := by unfold toI wrap64; rw [IntKind.wrap_i64]; try omega
  have H0 : RZ w (w.alloc (.cells #[.bool false, .int .i64 0, .int .u64 0, .int .u64 0, .int .i64 0, .int .i64 0, .string ⟨#[]⟩, .int .u32 0, .int .i64 0] 31)) := ⟨below_alloc _ _, heap_alloc_new _ _⟩
  clear e1 e2 e3 e4 e5 e6 h hv h1 h2 h3 hn2
  go_enter Try.func50, Try.ntmps50
  go_wp2_with fail
  refine (C1.out _).mono ?_
  rintro e v ⟨rfl, rfl⟩
  go_wp2_with fail
  refine (C2.out _).mono ?_
  rintro e v ⟨rfl, rfl⟩
  go_wp2_with fail
  refine (C3.out _).mono ?_
  rintro e v ⟨rfl, hb3⟩
  have H1 := H0.step hb3
  have hne : w.heap.size < v.heap.size := by have := H1.1.size; have := lt_of_block H1.2; omega
  clear hb3 H0
  obtain ⟨⟨y0, y1, y2, y3, y4, y5, y6, y7, y8⟩, fy⟩ := H1.res
  go_wp2_with fail
  go_region
  go_wp2_with fail
  refine (C4.out _).mono ?_
  rintro e v ⟨rfl, rfl⟩
  go_wp2_with fail
  refine (C5.out _).mono ?_
  rintro e v ⟨rfl, rfl⟩
  go_wp2_with fail
  refine (C6.out _).mono ?_
  rintro e v ⟨rfl, rfl⟩
  go_wp2_with fail
  refine (C7.out _).mono ?_
  rintro e v ⟨rfl, rfl⟩
  go_wp2
  refine bodyPost_ret (v := .tuple #[Cv ⟨false, ⟨((u[0]'u0).toNat : Nat), p, ((u[1]'u1).toNat : Nat), ((x[0]'x0).toNat : Nat), cl, ia, toI un⟩⟩, .int .i64 en, .int .i64 0]) (by simp [results, Try.results50, go_sem, y0, y1, y2, y3, y4, y5, y6, y7, y8, hne, k2, k3]) rfl ?_
  exact ⟨_, _, by rw [CE.out], fun _ => ⟨CC.out.symm, CN.out.symm⟩, ((below_nine1 H1.1 _ _ _ _ _ _ _ _ _ _).alloc (by simp; omega) _).drew⟩
end Go.Proofs.Ytgioifdmmneapaa
