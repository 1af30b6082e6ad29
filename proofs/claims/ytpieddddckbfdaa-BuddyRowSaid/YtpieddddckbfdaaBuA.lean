/-
  Contracts of buddy's small functions (compare, parent, halves, apart): what each returns for every value of the types, and that no memory that existed is changed. Condition of each: the words are words of 64 bits, an int is an int of 64 bits (every value of the types is such).
-/
import Derived.Test.YtpieddddckbfdaaBuL
import Derived.Test.YtpieddddckbfdaaBuP
import Derived.Sort.QuietIn
import Derived.Shelf.SlSortCmp.NoneTotal
namespace Go.Proofs.Ytpieddddckbfdaa
open Go.RowKit Go.Joins

/-- new memory and draws, nothing else -/
def Grew (w w' : World) : Prop := Below w.heap.size w w' ∧ w.drawn ≤ w'.drawn
theorem Grew.refl (w : World) : Grew w w := ⟨Below.refl _ _, Nat.le_refl _⟩
theorem Grew.trans {a b c : World} (h : Grew a b) (k : Grew b c) : Grew a c := ⟨chain h.1 k.1, Nat.le_trans h.2 k.2⟩
theorem grew_alloc (w : World) (o : Obj) : Grew w (w.alloc o) := ⟨below_alloc w o, Nat.le_refl _⟩
theorem Grew.grow {w w' : World} (h : Grew w w') : ∃ q os, w' = Go.Sort.grow (w.drewN q) os := by
  refine ⟨w'.drawn - w.drawn, w'.heap.extract w.heap.size w'.heap.size, ?_⟩
  obtain ⟨hb, hd⟩ := h
  obtain ⟨heap, tape, drawn, os, output⟩ := w
  obtain ⟨heap', tape', drawn', os', output'⟩ := w'
  have h1 := hb.os
  have h2 := hb.tape
  have h3 := hb.output
  have h4 := hb.size
  have h5 := hb.block
  simp only at h1 h2 h3 h4 h5 hd
  subst h1 h2 h3
  unfold Go.Sort.grow World.drewN
  simp only
  congr 1
  · apply Array.ext_getElem?
    intro i
    rw [Array.getElem?_append]
    split
    · exact h5 i (by assumption)
    · rw [Array.getElem?_extract]
      split
      · congr 1; omega
      · rw [Array.getElem?_eq_none]; omega
  · omega
def GivesG (v : Value) (w : World) (e : Ending) (w' : World) : Prop := e = .returned v ∧ Grew w w'
theorem cmpU_same (x y : Nat) (w : World) : Calls Try.prog 72 #[.int .u64 (x : Nat), .int .u64 (y : Nat)] w (Same (.int .i64 (cmpS x y)) w) := by
  rcases Nat.lt_trichotomy x y with h | h | h
  · have H := hide (cmpS_lt h)
    go_enter Try.func72, Try.ntmps72
    go_wp2
    go_ret
    exact ⟨congrArg Ending.returned (i64_eq H.out.symm), rfl⟩
  · subst h
    have H := hide (cmpS_eq (rfl : x = x))
    go_enter Try.func72, Try.ntmps72
    go_wp2
    go_ret
    exact ⟨congrArg Ending.returned (i64_eq H.out.symm), rfl⟩
  · have H := hide (cmpS_gt h)
    go_enter Try.func72, Try.ntmps72
    go_wp2
    go_ret
    exact ⟨congrArg Ending.returned (i64_eq H.out.symm), rfl⟩
set_option maxHeartbeats 400000 in
theorem cmpG_any (a b : Nat) (w : World) : Calls Try.prog 61 #[A a, A b] w (GivesG (.int .i64 (cmpS a b)) w) := by
  by_cases h : hi a = hi b
  · have H := hide (cmp_lo h)
    have K : (((hi a : Nat) : Int) != ((hi b : Nat) : Int)) = false := by rw [h]; simp
    clear h
    go_enter Try.func61, Try.ntmps61
    go_wp2_with (go_at_call 72; refine (cmpU_same _ _ _).mono ?_; rintro e w' ⟨rfl, rfl⟩)
    go_ret
    exact ⟨congrArg Ending.returned (i64_eq H.out), (grew_alloc _ _).trans (grew_alloc _ _)⟩
  · have H := hide (cmp_hi h)
    have K : (((hi a : Nat) : Int) != ((hi b : Nat) : Int)) = true := by simp; omega
    clear h
    go_enter Try.func61, Try.ntmps61
    go_wp2_with (go_at_call 72; refine (cmpU_same _ _ _).mono ?_; rintro e w' ⟨rfl, rfl⟩)
    go_ret
    exact ⟨congrArg Ending.returned (i64_eq H.out), (grew_alloc _ _).trans (grew_alloc _ _)⟩
set_option maxHeartbeats 400000 in
theorem compare_g (x y : Bk) (w : World) : Calls Try.prog 47 #[Bv x, Bv y] w (GivesG (.int .i64 (cmpS x.1 y.1)) w) := by
  go_enter Try.func47, Try.ntmps47
  go_wp2_with fail
  refine (cmpG_any x.1 y.1 _).mono ?_
  rintro e w1 ⟨rfl, hb1⟩
  go_wp2
  go_ret
  exact ⟨rfl, ((grew_alloc _ _).trans (grew_alloc _ _)).trans hb1⟩
theorem comp_any (x y : Bk) (w : World) : Calls Try.prog 47 #[Bv x, Bv y] w (Gives (.int .i64 (cmpS x.1 y.1)) w) :=
  (compare_g x y w).mono fun _ _ h => ⟨h.1, h.2.1⟩
theorem cmp_le (a b : Nat) : decide (cmpS a b ≤ 0) = decide (a ≤ b) := by
  unfold cmpS
  rw [decide_eq_decide]
  repeat' split
  all_goals omega
theorem cmp_lt (a b : Nat) : decide (cmpS a b < 0) = decide (a < b) := by
  unfold cmpS
  rw [decide_eq_decide]
  repeat' split
  all_goals omega
theorem cmp_ge (a b : Nat) : decide (0 ≤ cmpS a b) = decide (b ≤ a) := by
  unfold cmpS
  rw [decide_eq_decide]
  repeat' split
  all_goals omega

/-! ### parents -/
theorem wrap_par {x : Bk} (hx : I64 x.2) : okN (wrap64 (x.2 - 1)) = isPar x ∧ clipN (wrap64 (x.2 - 1)) = (parB x).2 ∧ clipA x.1 (wrap64 (x.2 - 1)) = (parB x).1 := by
  unfold I64 at hx
  rcases (show -9223372036854775808 < x.2 ∨ x.2 ≤ -9223372036854775808 by omega) with h | h
  · rw [IntWalk.wrap64_in _ ⟨by omega, by omega⟩]
    exact ⟨rfl, rfl, rfl⟩
  · have e : x.2 = -9223372036854775808 := by omega
    have e1 : wrap64 (x.2 - 1) = 9223372036854775807 := by
      unfold wrap64
      omega
    have k1 : okN (wrap64 (x.2 - 1)) = false := by rw [e1]; unfold okN; rw [decide_eq_false_iff_not]; omega
    have k2 : okN (x.2 - 1) = false := by unfold okN; rw [decide_eq_false_iff_not]; omega
    clear e1 e h
    generalize wrap64 (x.2 - 1) = n at *
    refine ⟨by unfold isPar; rw [k1, k2], ?_, ?_⟩
    · unfold parB clipN
      rw [if_neg (by rw [k1]; decide), if_neg (by rw [k2]; decide)]
    · unfold parB clipA
      rw [if_neg (by rw [k1]; decide), if_neg (by rw [k2]; decide)]
theorem par_fit {x : Bk} (h : FitB x) : FitB (parB x) := by
  refine ⟨fits_clipA h.1 _, ?_⟩
  unfold parB clipN I64
  simp only
  split
  · rename_i k
    have := okN_iff.1 k
    omega
  · omega
set_option maxHeartbeats 400000 in
theorem parent_any {x : Bk} (hx : FitB x) (w : World) : Calls Try.prog 62 #[Bv x] w (Gives (.tuple #[Bv (parB x), .bool (isPar x)]) w) := by
  obtain ⟨k1, k2, k3⟩ := wrap_par hx.2
  have C := hide (fun W => via (clip_any hx.1 (wrap64 (x.2 - 1)) W) (v' := .tuple #[Bv (parB x), .bool (isPar x)]) (by rw [k1, k2, k3]))
  clear k1 k2 k3
  generalize isPar x = ok at *
  generalize parB x = q at *
  go_enter Try.func62, Try.ntmps62
  go_wp2_with fail
  have B0 := (box_new (w.alloc (.cells #[.int .u64 (hi x.1 : Nat), .int .u64 (lo x.1 : Nat), .int .i64 x.2] 26)) (0, 0) 26)
  have HB0 := chain (below_alloc w (.cells #[.int .u64 (hi x.1 : Nat), .int .u64 (lo x.1 : Nat), .int .i64 x.2] 26)) (below_alloc _ (.cells #[.int .u64 0, .int .u64 0, .int .i64 0] 26))
  refine (C.out _).mono ?_
  rintro e w1 ⟨rfl, hb1⟩
  have T := B0.step hb1
  have HB := chain HB0 hb1
  simp only [World.size_alloc] at T
  obtain ⟨t0, ⟨t1, t2, t3⟩, t4, t5, t6⟩ := T
  clear hb1 B0 HB0
  go_wp2
  refine bodyPost_ret (v := .tuple #[Bv q, .bool ok]) (by simp [results, Try.results62, go_sem, t1, t2, t3]) rfl ⟨rfl, ?_⟩
  have hzB := HB.size
  repeat' (first | (with_reducible exact HB) | (with_reducible apply Below.drew) | (with_reducible apply Below.alloc) | (with_reducible apply Below.setCell))
  all_goals first | omega | (dsimp only; omega) | ((try simp); omega)
theorem parent_cases {x : Bk} (hx : FitB x) {q : Bk} {ok : Bool} (h1 : parB x = q) (h2 : isPar x = ok) (w : World) : Calls Try.prog 62 #[Bv x] w (Gives (.tuple #[Bv q, .bool ok]) w) := by
  subst h1 h2
  exact parent_any hx w

/-! ### two prefixes compared -/
theorem eq_addr (a b c d : Int) (w : World) : (Op.equalIn (9996 + 1 + 1 + 1) 24 (.agg #[.int .u64 a, .int .u64 b]) (.agg #[.int .u64 c, .int .u64 d])).run Try.prog w = .ok ((a == c) && (b == d)) w := by
  rw [run_equalIn_agg w _ 24 _ _ (by kernel_rfl) (by kernel_rfl)]
  simp only [Program.fieldsOf, Try.underlying24]
  have p0 : ∀ (a b : Int) w, (part 22 #[.int .u64 a, .int .u64 b] 0).run Try.prog w = .ok (.int .u64 a) w := fun _ _ _ => by kernel_rfl
  have p1 : ∀ (a b : Int) w, (part 22 #[.int .u64 a, .int .u64 b] 1).run Try.prog w = .ok (.int .u64 b) w := fun _ _ _ => by kernel_rfl
  have q0 : ∀ (a b : Int) w, (Op.equalIn (9996 + 1 + 1) 22 (.int .u64 a) (.int .u64 b)).run Try.prog w = .ok (a == b) w := fun _ _ _ => by kernel_rfl
  simp only [Op.eqFields, Sem.run_bind, Sem.run_ite, p0, p1, q0, Result.andThen_ok]
  generalize (a == c) = r0
  generalize (b == d) = r1
  cases r0 <;> cases r1 <;> rfl
theorem eql_prefix (a b n c d m : Int) (w : World) : (Op.equalIn 10000 26 (.agg #[.int .u64 a, .int .u64 b, .int .i64 n]) (.agg #[.int .u64 c, .int .u64 d, .int .i64 m])).run Try.prog w = .ok (((a == c) && (b == d)) && (n == m)) w := by
  rw [show (10000 : Nat) = 9996 + 1 + 1 + 1 + 1 from rfl, run_equalIn_agg w _ 26 _ _ (by kernel_rfl) (by kernel_rfl)]
  simp only [Program.fieldsOf, Try.underlying26]
  have p0 : ∀ (a b n : Int) w, (part 24 #[.int .u64 a, .int .u64 b, .int .i64 n] 0).run Try.prog w = .ok (.agg #[.int .u64 a, .int .u64 b]) w := fun _ _ _ _ => by kernel_rfl
  have p1 : ∀ (a b n : Int) w, (part 3 #[.int .u64 a, .int .u64 b, .int .i64 n] 2).run Try.prog w = .ok (.int .i64 n) w := fun _ _ _ _ => by kernel_rfl
  have e0 : ∀ (a b c d : Int) w, (Op.equalIn (9996 + 1 + 1 + 1) 24 (.agg #[.int .u64 a, .int .u64 b]) (.agg #[.int .u64 c, .int .u64 d])).run Try.prog w = .ok ((a == c) && (b == d)) w := fun a b c d w => eq_addr a b c d w
  have q0 : ∀ (a b : Int) w, (Op.equalIn (9996 + 1 + 1 + 1) 3 (.int .i64 a) (.int .i64 b)).run Try.prog w = .ok (a == b) w := fun _ _ _ => by kernel_rfl
  simp only [Op.eqFields, Sem.run_bind, Sem.run_ite, p0, p1, q0, e0, Result.andThen_ok]
  generalize ((a == c) && (b == d)) = r0
  generalize (n == m) = r1
  cases r0 <;> cases r1 <;> rfl
theorem eq_dec (x y : Bk) : (((((hi x.1 : Nat) : Int) == ((hi y.1 : Nat) : Int)) && (((lo x.1 : Nat) : Int) == ((lo y.1 : Nat) : Int))) && (x.2 == y.2)) = decide (x = y) := by
  rw [Bool.eq_iff_iff, decide_eq_true_iff]
  simp only [Bool.and_eq_true, beq_iff_eq]
  constructor
  · rintro ⟨⟨h1, h2⟩, h3⟩
    exact Prod.ext (eq_of_words (by omega) (by omega)) h3
  · rintro rfl
    exact ⟨⟨rfl, rfl⟩, rfl⟩
theorem eq_run (x y : Bk) (w : World) : (binOp .eql 26 (Bv x) (Bv y)).run Try.prog w = .ok (.bool (decide (x = y))) w := by
  rw [run_eql_struct, eql_prefix, eq_dec]
  rfl
theorem neq_run (x y : Bk) (w : World) : (binOp .neq 26 (Bv x) (Bv y)).run Try.prog w = .ok (.bool (!decide (x = y))) w := by
  rw [run_neq_struct, eql_prefix, eq_dec]
  rfl
end Go.Proofs.Ytpieddddckbfdaa
