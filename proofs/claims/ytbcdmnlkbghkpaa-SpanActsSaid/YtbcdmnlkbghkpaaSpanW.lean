/-
  Contracts of the law's own small functions: small, in, same, built. Conditions: the words are words of 64 bits.
-/
import Derived.Test.YtbcdmnlkbghkpaaSpanD
namespace Go.Proofs.Ytbcdmnlkbghkpaa
open Go.RowKit Go.Joins

set_option maxHeartbeats 400000 in
theorem small_any (a b : Nat) (w : World) : Calls Try.prog 33 #[.int .u64 (a : Nat), .int .u64 (b : Nat)] w (Gives (.agg #[.int .u64 0, .int .u64 a, .int .u64 0, .int .u64 b]) w) := by
  go_enter Try.func33, Try.ntmps33
  go_wp2
  refine bodyPost_ret (v := .agg #[.int .u64 0, .int .u64 a, .int .u64 0, .int .u64 b]) (by simp [results, Try.results33, go_sem]) rfl ⟨rfl, ?_⟩
  exact below_alloc _ _

def inB (r : Rg) (a : Nat) : Bool := decide (r.1 ≤ a) && decide (a ≤ r.2)
set_option maxHeartbeats 400000 in
theorem in_any (r : Rg) (a : Nat) (w : World) : Calls Try.prog 32 #[RV r, A a] w (Gives (.bool (inB r a)) w) := by
  have C1 := hide (fun W => cmp_any r.1 a W)
  have C2 := hide (fun W => cmp_any a r.2 W)
  have L1 := hide (cmp_le r.1 a)
  have L2 := hide (cmp_le a r.2)
  have T0 := (four_new w r 27).step (below_alloc _ (.cells #[.int .u64 (hi a : Nat), .int .u64 (lo a : Nat)] 25))
  have T1 := two_new (w.alloc (.cells #[.int .u64 (hi r.1 : Nat), .int .u64 (lo r.1 : Nat), .int .u64 (hi r.2 : Nat), .int .u64 (lo r.2 : Nat)] 27)) a 25
  rw [World.size_alloc] at T1
  have B0 := chain (below_alloc w (.cells #[.int .u64 (hi r.1 : Nat), .int .u64 (lo r.1 : Nat), .int .u64 (hi r.2 : Nat), .int .u64 (lo r.2 : Nat)] 27)) (below_alloc _ (.cells #[.int .u64 (hi a : Nat), .int .u64 (lo a : Nat)] 25))
  by_cases P : r.1 ≤ a
  · have P0 : cmpS r.1 a ≤ 0 := by have := L1.out; rw [decide_eq_true P] at this; simpa using this
    have R := hide (show inB r a = decide (cmpS a r.2 ≤ 0) by unfold inB; rw [decide_eq_true P, L2.out, Bool.true_and])
    clear P
    go_enter Try.func32, Try.ntmps32
    go_wp2_with fail
    refine (C1.out _).mono ?_
    rintro e w1 ⟨rfl, hb1⟩
    have T2 := T0.step hb1
    have T3 := T1.step hb1
    have B1 := chain B0 hb1
    clear hb1 T0 T1 B0
    obtain ⟨z0, ⟨z1, z2, z3, z4⟩, _⟩ := id T2
    obtain ⟨t0, t1, t2, t3, t4⟩ := id T3
    go_wp2_with fail
    refine (C2.out _).mono ?_
    rintro e w2 ⟨rfl, hb2⟩
    go_wp2
    go_ret
    exact ⟨congrArg Ending.returned (bool_eq R.out.symm), chain B1 hb2⟩
  · have P0 : ¬ cmpS r.1 a ≤ 0 := by have := L1.out; rw [decide_eq_false P] at this; simpa using this
    have R := hide (show inB r a = false by unfold inB; rw [decide_eq_false P]; rfl)
    clear P
    go_enter Try.func32, Try.ntmps32
    go_wp2_with fail
    refine (C1.out _).mono ?_
    rintro e w1 ⟨rfl, hb1⟩
    have B1 := chain B0 hb1
    clear hb1 T0 T1 B0
    go_wp2
    go_ret
    exact ⟨by rw [R.out]; rfl, B1⟩

/-- the set that the law builds: the ranges put one by one -/
def putIf (s : List Rg) (r : Rg) : List Rg := if okR r then putL s r else s
def builtL (l : List Rg) : List Rg := (l.take 200).foldl putIf []
theorem built_step {l : List Rg} {k : Nat} {x : Rg} (h : l[k]? = some x) : (l.take (k + 1)).foldl putIf [] = putIf ((l.take k).foldl putIf []) x := by
  rw [List.take_add_one, h, List.foldl_append]
  rfl
theorem putIf_good {s : List Rg} {r : Rg} (hs : Snd s) (hf : FitL s) (fr : FitR r) : Snd (putIf s r) ∧ FitL (putIf s r) ∧ (putIf s r).length ≤ s.length + 1 := by
  unfold putIf
  split
  · rename_i h
    have hr : r.1 ≤ r.2 := by simpa [okR] using h
    exact ⟨(put_spec hs hf hr).1, put_fit hf fr, put_len hs hr⟩
  · exact ⟨hs, hf, by omega⟩
theorem built_good {l : List Rg} (hf : FitL l) : ∀ k, Snd ((l.take k).foldl putIf []) ∧ FitL ((l.take k).foldl putIf []) ∧ ((l.take k).foldl putIf []).length ≤ k
  | 0 => ⟨trivial, (fun x hx => by simp at hx), by simp⟩
  | k + 1 => by
    obtain ⟨h1, h2, h3⟩ := built_good hf k
    by_cases hk : k < l.length
    · obtain ⟨x, hx⟩ := get_some hk
      rw [built_step hx]
      obtain ⟨g1, g2, g3⟩ := putIf_good h1 h2 (fit_at hf hx)
      exact ⟨g1, g2, by omega⟩
    · rw [List.take_of_length_le (by omega)] at h1 h2 h3
      rw [List.take_of_length_le (by omega)]
      exact ⟨h1, h2, by omega⟩
/-- a value that reads as a list -/
def Reads (l : List Rg) (w : World) (e : Ending) (w' : World) : Prop := ∃ v, e = .returned v ∧ Below w.heap.size w w' ∧ Lst v l w'
set_option maxRecDepth 100000 in
set_option maxHeartbeats 1000000 in
theorem built_any {v : Value} {l : List Rg} (hf : FitL l) (w : World) (hv : Lst v l w) :
    Calls Try.prog 28 #[v] w (Reads (builtL l) w) := by
  obtain ⟨p, c, rfl, hold⟩ := lst_old hv
  go_enter Try.func28, Try.ntmps28
  go_wp2
  go_loopw [3, 4] (fun s3 i wr => ∃ (k : Nat) (v' : Value), k ≤ 200 ∧ k ≤ l.length ∧ i = .int .i64 (k : Nat) ∧ v' = s3 ∧ Below w.heap.size w wr ∧ Lst v' ((l.take k).foldl putIf []) wr) (fun _ i _ => 200 - (intOf i).toNat)
  case atStart => exact ⟨0, _, Nat.zero_le _, Nat.zero_le _, rfl, rfl, Below.refl _ _, Or.inl ⟨none, 0, rfl, rfl, fun _ => rfl, by omega⟩⟩
  case round =>
    obtain ⟨k, v', hk, hkl, rfl, rfl, HB, HL⟩ := hrel
    obtain ⟨g1, g2, g3⟩ := built_good hf k
    by_cases hlt : k < l.length
    · by_cases h2 : k < 200
      · obtain ⟨x, hx⟩ := get_some hlt
        have fx := fit_at hf hx
        obtain ⟨b', o', rfl, hbb, x1, x2, x3, x4⟩ := (hold.keep HB) k x hx
        have ST := hide (built_step hx)
        clear hx
        generalize (l.take k).foldl putIf [] = s at *
        cases hr : okR x with
        | true =>
          have PA := hide (fun W H => put_any (v := v') (r := x) g2 fx (sound_snd.2 g1) hr (by omega) W H)
          have PI := hide (show putIf s x = putL s x by unfold putIf; rw [hr]; rfl)
          clear hr
          go_wp2_with fail
          refine (PA.out _ HL).mono ?_
          rintro e w1 ⟨v1, rfl, hb1, ho1⟩
          have HB1 := chain HB hb1
          clear hb1
          go_wp2
          go_roundw
          case rel => exact ⟨k + 1, v1, by omega, hlt, by go_num, rfl, HB1, by rw [ST.out, PI.out]; exact own_lst ho1⟩
          case measure => simp [intOf]; omega
        | false =>
          have PA := hide (fun W H => put_bad (v := v') (r := x) g2 (by omega) (Or.inr hr) W H)
          have PI := hide (show putIf s x = s by unfold putIf; rw [hr]; rfl)
          clear hr
          go_wp2_with fail
          refine (PA.out _ HL).mono ?_
          rintro e w1 ⟨rfl, hb1⟩
          have HB1 := chain HB hb1
          have HL1 := HL.step hb1
          clear hb1
          go_wp2
          go_roundw
          case rel => exact ⟨k + 1, v', by omega, hlt, by go_num, rfl, HB1, by rw [ST.out, PI.out]; exact HL1⟩
          case measure => simp [intOf]; omega
      · have e : l.take 200 = l.take k := by rw [show k = 200 by omega]
        have BE := hide (show builtL l = (l.take k).foldl putIf [] by unfold builtL; rw [e])
        clear e
        generalize (l.take k).foldl putIf [] = s at *
        go_wp2
        go_ret
        exact ⟨_, rfl, HB, by rw [BE.out]; exact HL⟩
    · have e : l.take 200 = l.take k := by rw [List.take_of_length_le (show l.length ≤ k by omega), List.take_of_length_le (by omega)]
      have BE := hide (show builtL l = (l.take k).foldl putIf [] by unfold builtL; rw [e])
      clear e
      generalize (l.take k).foldl putIf [] = s at *
      go_wp2
      go_ret
      exact ⟨_, rfl, HB, by rw [BE.out]; exact HL⟩
end Go.Proofs.Ytbcdmnlkbghkpaa
