/-
  Contracts of total, Count and Nth. Conditions: the words are words of 64 bits; a slice has at most 1000000 ranges.
-/
import Derived.Test.YtfmhpnendcikoaaGreatSpanT
namespace Go.Proofs.YtfmhpnendcikoaaGreat
open Go.RowKit Go.Joins

set_option maxHeartbeats 400000 in
theorem total_none (p : Option Go.Addr) (c : Nat) (w : World) : Calls Tryz.prog 46 #[.slice p 0 c] w (Gives (A 0) w) := by
  have T0 := two_zero w 31
  have T1 := two_zero (w.alloc (.cells #[.int .u64 0, .int .u64 0] 31)) 31
  rw [World.size_alloc] at T1
  have T2 := T0.step (below_alloc _ (.cells #[.int .u64 0, .int .u64 0] 31))
  have HB := chain (below_alloc w (.cells #[.int .u64 0, .int .u64 0] 31)) (below_alloc _ (.cells #[.int .u64 0, .int .u64 0] 31))
  clear T0
  go_enter Tryz.func46, Tryz.ntmps46
  go_wp2
  generalize (w.alloc (.cells #[.int .u64 0, .int .u64 0] 31)).alloc (.cells #[.int .u64 0, .int .u64 0] 31) = V at T1 T2 HB ⊢
  go_loop [11] (fun i => i = .int .i64 0) (fun _ => 0)
  case atStart => rfl
  case round =>
    obtain rfl := hrel
    obtain ⟨z0, z1, z2, z3, z4⟩ := id T2
    obtain ⟨t0, t1, t2, t3, t4⟩ := id T1
    go_wp2
    refine bodyPost_ret (v := A 0) (by simp [results, Tryz.results46, go_sem, z1, z2]) rfl ⟨rfl, ?_⟩
    have hzB := HB.size
    repeat' (first | (with_reducible exact HB) | (with_reducible apply Below.drew) | (with_reducible apply Below.alloc) | (with_reducible apply Below.setCell))
    all_goals first | omega | (dsimp only; omega) | ((try simp); omega)
theorem total_any {v : Value} {l : List Rg} (hf : FitL l) (hl : l.length ≤ 1000000) (w : World) (h : Lst v l w) : Calls Tryz.prog 46 #[v] w (Gives (A (totS l 0)) w) := by
  rcases h with ⟨p, c, rfl, rfl, _⟩ | ⟨b, o, c, rfl, hr, _⟩
  · rw [tot_nil]; exact total_none p c w
  · exact total_some hf hl w hr

def cntV (l : List Rg) : Nat := if soundL l then totS l 0 else 0
def cntO (l : List Rg) : Bool := soundL l && (decide (0 < l.length) && decide (totS l 0 = 0))
theorem words_zero (n : Nat) : (((hi n : Nat) : Int) == 0 && ((lo n : Nat) : Int) == 0) = decide (n = 0) := by
  rw [Bool.eq_iff_iff]
  simp
  constructor
  · rintro ⟨h1, h2⟩
    unfold hi lo at *
    omega
  · intro h
    subst h
    decide
set_option maxRecDepth 100000 in
set_option maxHeartbeats 400000 in
theorem count_any {v : Value} {l : List Rg} (hf : FitL l) (hl : l.length ≤ 1000000) (w : World) (h : Lst v l w) :
    Calls Tryz.prog 26 #[v] w (Gives (.tuple #[A (cntV l), .bool (cntO l)]) w) := by
  obtain ⟨p, c, hv⟩ := lst_len h
  have SA := hide (fun (W : World) (H : Lst v l W) => sound_any hf hl W H)
  have TA := hide (fun (W : World) (H : Lst v l W) => total_any hf hl W H)
  cases e : soundL l with
  | false =>
    have R := hide (show cntV l = 0 ∧ cntO l = false by unfold cntV cntO; rw [e]; exact ⟨rfl, rfl⟩)
    have SB := hide (fun (W : World) (H : Lst v l W) => via (SA.out W H) (v' := .bool false) (by rw [e]))
    clear e SA TA
    subst hv
    have T0 := two_zero w 31
    go_enter Tryz.func26, Tryz.ntmps26
    go_wp2_with fail
    refine (SB.out _ (h.step (below_alloc _ _))).mono ?_
    rintro e w1 ⟨rfl, hb1⟩
    have T1 := T0.step hb1
    have HB := chain (below_alloc w (.cells #[.int .u64 0, .int .u64 0] 31)) hb1
    clear hb1 T0
    obtain ⟨t0, t1, t2, t3, t4⟩ := id T1
    go_wp2
    refine bodyPost_ret (v := .tuple #[.agg #[.int .u64 0, .int .u64 0], .bool false]) (by simp [results, Tryz.results26, go_sem, t1, t2]) rfl ⟨by rw [R.out.1, R.out.2]; rfl, ?_⟩
    have hzB := HB.size
    repeat' (first | (with_reducible exact HB) | (with_reducible apply Below.drew) | (with_reducible apply Below.alloc) | (with_reducible apply Below.setCell))
    all_goals first | omega | (dsimp only; omega) | ((try simp); omega)
  | true =>
    have R := hide (show cntV l = totS l 0 ∧ cntO l = (decide (0 < l.length) && decide (totS l 0 = 0)) by unfold cntV cntO; rw [e]; exact ⟨rfl, rfl⟩)
    have SB := hide (fun (W : World) (H : Lst v l W) => via (SA.out W H) (v' := .bool true) (by rw [e]))
    clear e SA
    subst hv
    have T0 := two_zero w 31
    have H0 := h.step (below_alloc w (.cells #[.int .u64 0, .int .u64 0] 31))
    have WZ := hide (words_zero (totS l 0))
    generalize totS l 0 = n at *
    go_enter Tryz.func26, Tryz.ntmps26
    go_wp2_with fail
    refine (SB.out _ H0).mono ?_
    rintro e w1 ⟨rfl, hb1⟩
    have T1 := T0.step hb1
    have H1 := H0.step hb1
    have HB := chain (below_alloc w (.cells #[.int .u64 0, .int .u64 0] 31)) hb1
    clear hb1 T0 H0
    go_wp2_with fail
    refine (TA.out _ H1).mono ?_
    rintro e w2 ⟨rfl, hb2⟩
    have T2 := (T1.step hb2).step (below_alloc w2 (.cells #[.int .u64 (hi n : Nat), .int .u64 (lo n : Nat)] 31))
    have U2 := two_new w2 n 31
    have HB2 := chain (chain HB hb2) (below_alloc w2 (.cells #[.int .u64 (hi n : Nat), .int .u64 (lo n : Nat)] 31))
    have D2 : w.heap.size < w2.heap.size := Nat.lt_of_lt_of_le T1.1 hb2.size
    clear hb2 HB T1 H1
    go_wp2
    generalize w2.alloc (.cells #[.int .u64 (hi n : Nat), .int .u64 (lo n : Nat)] 31) = V at T2 U2 HB2 ⊢
    generalize w2.heap.size = g at U2 D2 ⊢
    obtain ⟨t0, t1, t2, t3, t4⟩ := id T2
    obtain ⟨u0, u1, u2, u3, u4⟩ := id U2
    have fin : ∀ b, (decide (0 < l.length) && (((hi n : Nat) : Int) == 0 && ((lo n : Nat) : Int) == 0)) = b → Ending.returned (.tuple #[A n, .bool b]) = .returned (.tuple #[A (cntV l), .bool (cntO l)]) := by
      intro b hb
      rw [R.out.1, R.out.2, ← WZ.out, hb]
    have F := hide fin
    clear fin
    by_cases P0 : 0 < l.length
    · by_cases Hh : hi n = 0
      · by_cases Hl : lo n = 0
        · have F1 := hide (F.out true (by simp [P0, Hh, Hl]))
          go_region
          all_goals
            go_wp2
            refine bodyPost_ret (v := .tuple #[A n, .bool true]) (by simp [results, Tryz.results26, go_sem, Hh, Hl, t1, t2]) rfl ⟨F1.out, ?_⟩
            have hzB := HB2.size
            repeat' (first | (with_reducible exact HB2) | (with_reducible apply Below.drew) | (with_reducible apply Below.alloc) | (with_reducible apply Below.setCell))
            all_goals first | omega | (dsimp only; omega) | ((try simp); omega)
        · have F1 := hide (F.out false (by simp [Hl]))
          go_region
          all_goals
            go_wp2
            refine bodyPost_ret (v := .tuple #[A n, .bool false]) (by simp [results, Tryz.results26, go_sem, Hh, t1, t2]) rfl ⟨F1.out, ?_⟩
            have hzB := HB2.size
            repeat' (first | (with_reducible exact HB2) | (with_reducible apply Below.drew) | (with_reducible apply Below.alloc) | (with_reducible apply Below.setCell))
            all_goals first | omega | (dsimp only; omega) | ((try simp); omega)
      · have F1 := hide (F.out false (by simp [Hh]))
        go_region
        all_goals
          go_wp2
          refine bodyPost_ret (v := .tuple #[A n, .bool false]) (by simp [results, Tryz.results26, go_sem, t1, t2]) rfl ⟨F1.out, ?_⟩
          have hzB := HB2.size
          repeat' (first | (with_reducible exact HB2) | (with_reducible apply Below.drew) | (with_reducible apply Below.alloc) | (with_reducible apply Below.setCell))
          all_goals first | omega | (dsimp only; omega) | ((try simp); omega)
    · have F1 := hide (F.out false (by simp [P0]))
      go_region
      all_goals
        go_wp2
        refine bodyPost_ret (v := .tuple #[A n, .bool false]) (by simp [results, Tryz.results26, go_sem, t1, t2]) rfl ⟨F1.out, ?_⟩
        have hzB := HB2.size
        repeat' (first | (with_reducible exact HB2) | (with_reducible apply Below.drew) | (with_reducible apply Below.alloc) | (with_reducible apply Below.setCell))
        all_goals first | omega | (dsimp only; omega) | ((try simp); omega)
end Go.Proofs.YtfmhpnendcikoaaGreat
