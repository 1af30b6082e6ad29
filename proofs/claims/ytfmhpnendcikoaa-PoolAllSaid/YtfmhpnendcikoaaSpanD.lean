/-
  Contracts of Drop and Rank. Conditions: the words are words of 64 bits; a slice has at most 600 ranges.
-/
import Derived.Test.YtfmhpnendcikoaaSpanE
namespace Go.Proofs.Ytfmhpnendcikoaa
open Go.RowKit Go.Joins

theorem sound_one (r : Rg) : soundL [r] = okR r := by
  cases e : okR r with
  | true => exact sound_true (fun i hi => by
      have : i = 0 := by simpa using hi
      subst this
      unfold goodAt
      simp [e])
  | false => exact sound_false (i := 0) (by simp) (by unfold goodAt; simp [e])
theorem fit_one {r : Rg} (h : FitR r) : FitL [r] := fun x hx => by rw [List.mem_singleton] at hx; rw [hx]; exact h
theorem put_base {l : List Rg} {w w1 : World} {e : Ending} {w' : World} (hb : Below w.heap.size w w1) (h : PutGives l w1 e w') : PutGives l w e w' := by
  obtain ⟨v, h1, h2, h3⟩ := h
  exact ⟨v, h1, chain hb h2, own_base h3 hb.size⟩
set_option maxRecDepth 100000 in
set_option maxHeartbeats 400000 in
theorem drop_any {v : Value} {l : List Rg} {r : Rg} (hf : FitL l) (fr : FitR r) (hs : soundL l = true) (hr : okR r = true) (hl : l.length ≤ 600) (w : World) (hv : Lst v l w) :
    Calls Try.prog 39 #[v, RV r] w (PutGives (lessL l [r]) w) := by
  obtain ⟨p, c, hv'⟩ := lst_len hv
  have LS := hide (fun W u (H : Lst v l W) (K : Lst u [r] W) => less_any hf (fit_one fr) hs (by rw [sound_one]; exact hr) hl (by simp) W H K)
  have F0 := four_new w r 40
  have B0 := below_alloc w (.cells #[.int .u64 (hi r.1 : Nat), .int .u64 (lo r.1 : Nat), .int .u64 (hi r.2 : Nat), .int .u64 (lo r.2 : Nat)] 40)
  have F1 := four_new (w.alloc (.cells #[.int .u64 (hi r.1 : Nat), .int .u64 (lo r.1 : Nat), .int .u64 (hi r.2 : Nat), .int .u64 (lo r.2 : Nat)] 40)) r 40
  have B1 := chain B0 (below_alloc _ (.cells #[.int .u64 (hi r.1 : Nat), .int .u64 (lo r.1 : Nat), .int .u64 (hi r.2 : Nat), .int .u64 (lo r.2 : Nat)] 40))
  rw [World.size_alloc] at F1
  subst hv'
  go_enter Try.func39, Try.ntmps39
  go_wp2_with fail
  refine (LS.out _ _ (hv.step B1) (lst_one F1)).mono ?_
  rintro e w1 ⟨v1, rfl, hb1, ho1⟩
  go_wp2
  go_ret2
  exact ⟨_, rfl, chain B1 hb1, own_base ho1 B1.size⟩
set_option maxRecDepth 100000 in
set_option maxHeartbeats 400000 in
theorem drop_bad {v : Value} {l : List Rg} {r : Rg} (hf : FitL l) (fr : FitR r) (hbad : soundL l = false ∨ okR r = false) (hl : l.length ≤ 600) (w : World) (hv : Lst v l w) :
    Calls Try.prog 39 #[v, RV r] w (Gives (.tuple #[.slice none 0 0, .int .i64 1]) w) := by
  obtain ⟨p, c, hv'⟩ := lst_len hv
  have LS := hide (fun W u (H : Lst v l W) (K : Lst u [r] W) => less_bad hf (fit_one fr) hl (by simp) (by rw [sound_one]; exact hbad) W H K)
  have B0 := below_alloc w (.cells #[.int .u64 (hi r.1 : Nat), .int .u64 (lo r.1 : Nat), .int .u64 (hi r.2 : Nat), .int .u64 (lo r.2 : Nat)] 40)
  have F1 := four_new (w.alloc (.cells #[.int .u64 (hi r.1 : Nat), .int .u64 (lo r.1 : Nat), .int .u64 (hi r.2 : Nat), .int .u64 (lo r.2 : Nat)] 40)) r 40
  have B1 := chain B0 (below_alloc _ (.cells #[.int .u64 (hi r.1 : Nat), .int .u64 (lo r.1 : Nat), .int .u64 (hi r.2 : Nat), .int .u64 (lo r.2 : Nat)] 40))
  rw [World.size_alloc] at F1
  subst hv'
  go_enter Try.func39, Try.ntmps39
  go_wp2_with fail
  refine (LS.out _ _ (hv.step B1) (lst_one F1)).mono ?_
  rintro e w1 ⟨rfl, hb1⟩
  go_wp2
  go_ret2
  exact ⟨rfl, chain B1 hb1⟩

def rankS (l : List Rg) (a : Nat) : Nat := if soundL l then totS (lessL l [(a, ones)]) 0 else 0
theorem A_ones : Value.agg #[.int .u64 18446744073709551615, .int .u64 18446744073709551615] = A ones := by
  have h1 : hi ones = 18446744073709551615 := by decide
  have h2 : lo ones = 18446744073709551615 := by decide
  rw [A, h1, h2]
  rfl
theorem RV_top (a : Nat) : Value.agg #[.int .u64 (hi a : Nat), .int .u64 (lo a : Nat), .int .u64 18446744073709551615, .int .u64 18446744073709551615] = RV (a, ones) := by
  have h1 : hi ones = 18446744073709551615 := by decide
  have h2 : lo ones = 18446744073709551615 := by decide
  show _ = Value.agg #[.int .u64 (hi a : Nat), .int .u64 (lo a : Nat), .int .u64 (hi ones : Nat), .int .u64 (lo ones : Nat)]
  rw [h1, h2]
  rfl
/-- what Rank's call of Drop gives: a list, whatever the error -/
def DropAny (l : List Rg) (w : World) (e : Ending) (w' : World) : Prop := ∃ (v : Value) (n : Int), e = .returned (.tuple #[v, .int .i64 n]) ∧ Below w.heap.size w w' ∧ Lst v l w'
set_option maxRecDepth 100000 in
set_option maxHeartbeats 400000 in
theorem rank_any {v : Value} {l : List Rg} {a : Nat} (hf : FitL l) (fa : Fits a) (hl : l.length ≤ 600) (w : World) (hv : Lst v l w) :
    Calls Try.prog 18 #[v, A a] w (Gives (A (rankS l a)) w) := by
  have fr : FitR (a, ones) := ⟨fa, fits_ones⟩
  have or : okR (a, ones) = true := by unfold okR; simp; unfold Fits at fa; unfold ones; omega
  obtain ⟨m, hm, fm, lm, DR⟩ : ∃ m : List Rg, rankS l a = totS m 0 ∧ FitL m ∧ m.length ≤ 1000000 ∧ ∀ W, Lst v l W → Calls Try.prog 39 #[v, RV (a, ones)] W (DropAny m W) := by
    cases e : soundL l with
    | true =>
      refine ⟨lessL l [(a, ones)], by unfold rankS; rw [e]; rfl, less_fit (sound_snd.1 e) (sound_snd.1 (by rw [sound_one]; exact or)) hf, ?_, fun W H => (drop_any hf fr e or hl W H).mono fun e w' ⟨v, h1, h2, h3⟩ => ⟨v, 0, h1, h2, own_lst h3⟩⟩
      have := crude (l := l) (o := [(a, ones)]) l.length (Nat.le_refl _)
      rw [List.take_length] at this
      simp at this
      omega
    | false => exact ⟨[], (by unfold rankS; rw [e, tot_nil]; rfl), (fun x hx => by cases hx), (by simp), fun W H => (drop_bad hf fr (Or.inl e) hl W H).mono fun e w' ⟨h1, h2⟩ => ⟨_, 1, h1, h2, Or.inl ⟨none, 0, rfl, rfl, fun _ => rfl, by omega⟩⟩⟩
  obtain ⟨p, c, hv'⟩ := lst_len hv
  have D := hide DR
  have TA := hide (fun W u (H : Lst u m W) => total_any fm lm W H)
  have R := hide hm
  clear DR hm
  subst hv'
  have T1 := two_zero (w.alloc (.cells #[.int .u64 (hi a : Nat), .int .u64 (lo a : Nat)] 35)) 35
  rw [World.size_alloc] at T1
  have B1 := chain (below_alloc w (.cells #[.int .u64 (hi a : Nat), .int .u64 (lo a : Nat)] 35)) (below_alloc _ (.cells #[.int .u64 0, .int .u64 0] 35))
  go_enter Try.func18, Try.ntmps18
  go_wp2_with fail
  rw [RV_top]
  refine (D.out _ (hv.step B1)).mono ?_
  rintro e w1 ⟨v1, n, rfl, hb1, ho1⟩
  have T2 := T1.step hb1
  have B2 := chain B1 hb1
  clear hb1 T1 B1
  go_wp2_with fail
  refine (TA.out _ _ ho1).mono ?_
  rintro e w2 ⟨rfl, hb2⟩
  have T3 := T2.step hb2
  have B3 := chain B2 hb2
  clear hb2 T2 B2
  generalize totS m 0 = n2 at *
  obtain ⟨t0, t1, t2, t3, t4⟩ := id T3
  go_wp2
  refine bodyPost_ret (v := A n2) (by simp [results, Try.results18, go_sem, t1, t2]) rfl ⟨by rw [R.out], ?_⟩
  have hzB := B3.size
  repeat' (first | (with_reducible exact B3) | (with_reducible apply Below.drew) | (with_reducible apply Below.alloc) | (with_reducible apply Below.setCell))
  all_goals first | omega | (dsimp only; omega) | ((try simp); omega)
end Go.Proofs.Ytfmhpnendcikoaa
