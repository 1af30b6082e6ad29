/-
  A range over a function whose rounds get the elements of a given list, each once, in its order; slices.Backward over a list of changes. Condition: the list lies in memory, and the rounds leave it.
-/
import Derived.Test.YtpldkgollhbolaaTbLi
import Derived.RangeFuncNested
import Derived.RangeFuncBound
import Derived.RangeFuncCalls
import Derived.RangeFuncLeaves
import Derived.Shelf.Abstract
import Derived.Shelf.RegionOpen
import Derived.WalkKit
import Derived.OwnWalkIn
import Derived.TacticsInMore
import Derived.LoopNIn
import Derived.LoopIn
import Derived.Sort.QuietIn
namespace Go.Proofs.Ytpldkgollhbolaa
open Go.RowKit Go.Joins Go.Maps Go.Shelf
attribute [local go_sem] Oper.semAt_some

/-- a round for each element of xs, in their order -/
def Rounds (n : Nat) (P : Program) (gf : Nat) (lb : Array Value) (enc : Nat → Ch → Array Value) (xs : List Ch) (U : World → Prop) : Prop :=
  ∀ (l : Nat) (J : List Ch → World → Prop) (W : World), (∀ pre W, J pre W → U W) →
    (∀ pre x post W1, xs = pre ++ x :: post → J pre W1 → YieldAt Fence.wide (n - 1) P l (enc post.length x) W1 fun e W' => e = .returned (.bool true) ∧ J (pre ++ [x]) W') →
    J [] W → CallsIn Fence.wide n P gf (#[.func (.yield l) #[] #[]] ++ lb) W fun e W' => (∃ v, e = .returned v) ∧ J xs W'
/-- how a round's body is left -/
def Left (B : Nat) (I : World → Prop) (W : World) : Exit → Act → World → Prop := fun e _ W' => e = .normal ∧ KeepsFrom B W W' ∧ I W'
theorem told_range {P : Program} {n : Nat} {g : Operand} {ps : Array Tmp} {assign body : Code} {Q : Exit → Act → World → Prop} {a : Act} {w : World}
    (h1 : 1 ≤ n) {gf : Nat} {lb : Array Value} (hg : a.eval g = .func (.func gf) #[] lb) (eg : ∀ args w, (callFunc gf args).run P w = .ok (.enter gf args) w)
    {enc : Nat → Ch → Array Value} {xs : List Ch} {U : World → Prop} (hit : Rounds (n - 1) P gf lb enc xs U) (hps : ∀ i x, (enc i x).size = ps.size)
    (I : List Ch → World → Prop) (hI : OwnFrom w.heap.size I) (hU : ∀ pre W, I pre W → U W) (h0 : I [] w) (A : Ch → Act → World → Prop) (hA : ∀ x a', OwnFrom w.heap.size (fun (_ : Unit) W => A x a' W))
    (hassign : ∀ (l : Nat) (pre : List Ch) (i : Nat) (x : Ch) (W : World) (K : Act → World → Prop), I pre W → (∀ a' W', KeepsFrom w.heap.size W W' → I pre W' → A x a' W' → K a' W') →
      assign.wpIn (Fence.wide.inRound l) (n - 1 - 1) P (Exit.then K (fun _ _ _ => False)) { tmps := (ps.zip (enc i x)).foldl (fun t (p, v) => t.setIfInBounds p v) a.tmps, defers := [] } W)
    (hbody : ∀ (l : Nat) (pre : List Ch) (x : Ch) (post : List Ch) (a' : Act) (W : World), xs = pre ++ x :: post → I pre W → A x a' W → body.wpIn (Fence.wide.inRound l) (n - 1 - 1) P (Left w.heap.size (I (pre ++ [x])) W) a' W)
    (hdone : ∀ (D : Nat) (W : World), w.heap.size ≤ D → I xs W → W.heap[D]? = some (.deferred (some [])) → Q .normal { a with defers := { target := .collected D, args := #[] } :: a.defers } W) :
    (Code.rangeFunc g ps assign body).wpIn Fence.wide n P Q a w := by
  refine wpIn_rangeFunc fun fn hfn => ?_
  let R (s : LoopState) : Loop := { state := s, pending := none, fn, tmps := a.tmps, params := ps, assign, body, defers := w.heap.size }
  let V := (w.alloc (.deferred (some []))).alloc (.loop (R .ready))
  -- the law's two blocks: the loop's own, that of the calls put off
  let Two (s : LoopState) (W : World) : Prop := W.heap[w.heap.size + 1]? = some (.loop (R s)) ∧ W.heap[w.heap.size]? = some (.deferred (some []))
  have two0 : Two .ready V := by
    refine ⟨?_, (Below.heap_alloc _ _ _ (by simp)).trans (World.alloc_heap_new w _)⟩
    have := World.alloc_heap_new (w.alloc (.deferred (some []))) (.loop (R .ready))
    rwa [World.size_alloc] at this
  have turn : ∀ {s : LoopState} {W : World} (s2 : LoopState), Two s W → Two s2 (W.putObj (w.heap.size + 1) (.loop (R s2))) := fun s2 h =>
    ⟨World.putObj_heap_same (Array.getElem?_eq_some_iff.1 h.1).1, (World.putObj_heap_other (by omega)).trans h.2⟩
  have keep : ∀ {s : LoopState} {W W' : World}, KeepsFrom w.heap.size W W' → Two s W → Two s W' := fun k h => ⟨k.same _ _ (by omega) h.1 rfl, k.same _ _ (Nat.le_refl _) h.2 rfl⟩
  refine ⟨w.heap.size + 1, [{ target := .collected w.heap.size, args := #[] }], V, { target := .fn (.func gf) lb, args := #[.func (.yield (w.heap.size + 1)) #[] #[]] }, V, gf,
    #[.func (.yield (w.heap.size + 1)) #[] #[]] ++ lb, V, run_enterLoop_outer _ _ _ _ _, ?_, fun _ _ => trivial, ?_, fun _ => h1, ?_⟩
  · simp only [resolve, hg]
    simp [go_sem]
  · simp [invoke, go_sem, eg]
  refine (hit (w.heap.size + 1) (fun pre W => I pre W ∧ Two .ready W) V (fun pre W h => hU pre W h.1) ?_ ⟨hI.alloc _ (hI.alloc _ h0), two0⟩).mono ?_
  · rintro pre x post W hx ⟨hi, ht⟩
    refine ⟨fn, _, assign, body, run_yield ht.1 (hps _ x), roundIn_of_wpIn hfn (hassign _ pre _ x W _ hi ?_)⟩
    intro a' W1 hk1 hi1 ha1
    have ht1 := keep hk1 ht
    refine ⟨_, run_beginRound ht1.1 rfl, ?_⟩
    refine wpIn_mono (hbody _ pre x post a' _ hx (hI.putObj _ hi1 (by omega) ht1.1 rfl) ((hA x a').putObj (s := ()) _ ha1 (by omega) ht1.1 rfl)) ?_
    rintro e a2 W2 ⟨rfl, hk2, hi2⟩
    have ht2 := keep hk2 (turn .busy ht1)
    exact ⟨_, _, run_endRound none ht2.1, rfl, hI.putObj _ hi2 (by omega) ht2.1 rfl, turn .ready ht2⟩
  · rintro e W ⟨⟨v, rfl⟩, hi, ht⟩
    exact ⟨none, _, run_endLoop ht.1 (by simp [R]), hdone _ _ (Nat.le_refl _) (hI.putObj _ hi (by omega) ht.1 rfl) (turn .exhausted ht).2⟩

/-! ### slices.Backward -/
/-- the list lies in memory, its slice in a box -/
def HoldsU (b : Nat) (p : Option Go.Addr) (cap : Nat) (l : List Ch) (W : World) : Prop := W.cell? ⟨b, 0, none⟩ = some (.slice p l.length cap) ∧ LstC p l W
abbrev encU (i : Nat) (x : Ch) : Array Value := #[.int .i64 (i : Int), Cv x]
theorem len_snoc {l pre : List Ch} {k : Nat} (h : l = (l.take k) ++ pre.reverse) (hk : k ≤ l.length) : pre.length = l.length - k := by
  have := congrArg List.length h
  simp at this; omega
theorem rev_step {l pre : List Ch} {k : Nat} (h : l = l.take (k + 1) ++ pre.reverse) {x : Ch} (hx : l[k]? = some x) : l.reverse = pre ++ x :: (l.take k).reverse ∧ l = l.take k ++ (pre ++ [x]).reverse := by
  have e : l.take (k + 1) = l.take k ++ [x] := by rw [List.take_add_one, hx]; rfl
  constructor
  · conv => lhs; rw [h, e]
    simp
  · conv => lhs; rw [h, e]
    simp
set_option maxRecDepth 100000 in
set_option maxHeartbeats 2000000 in
theorem backward1_in (n : Nat) (hn : 1 ≤ n) (Bn : Nat) (p : Option Go.Addr) (cap : Nat) (l : List Ch) (hl : l.length ≤ maxLen) :
    Rounds n Try.prog 74 #[.pointer (some ⟨Bn, 0, none⟩)] encU l.reverse (HoldsU Bn p cap l) := by
  intro lp J W hJU hY h0
  refine callsIn_of_wp Try.func74 rfl trivial ?_ rfl
  simp only [Try.ntmps74, List.size_toArray, List.length_cons, List.length_nil, Nat.reduceAdd, Nat.reduceSub, Array.replicate_succ, Array.replicate_zero, List.push_toArray, List.append_toArray, List.nil_append, List.cons_append]
  have U0 := (hJU _ _ h0).1
  have HY := hide hY
  have HU := hide hJU
  have HL := hide hl
  clear hY hJU hl
  have W1 : ∀ k : Nat, k ≤ l.length → IntKind.i64.wrap ((k : Int) - 1) = (k : Int) - 1 := fun k hk => by have := HL.out; unfold maxLen at this; rw [IntKind.wrap_i64]; omega
  have W0 := W1 l.length (Nat.le_refl _)
  gi_wp2
  gi_loopw [3] (fun r wr => ∃ (k : Nat) (pre : List Ch), r = .int .i64 ((k : Int) - 1) ∧ k ≤ l.length ∧ Hid (l = l.take k ++ pre.reverse) ∧ J pre wr)
    (fun r _ => (intOf r + 1).toNat)
  case atStart => exact ⟨l.length, [], by first | rfl | rw [W0], Nat.le_refl _, hide (by simp), h0⟩
  case round =>
    obtain ⟨k, pre, rfl, hk, HS, hJ⟩ := hrel
    obtain ⟨uc, ul⟩ := HU.out _ _ hJ
    cases k with
    | zero =>
      have hd := hide (show pre = l.reverse by have := HS.out; simp at this; rw [this]; simp)
      gi_wp2
      go_end0
      exact ⟨⟨_, rfl⟩, hd.out ▸ hJ⟩
    | succ k =>
      obtain ⟨x, hx⟩ : ∃ x, l[k]? = some x := ⟨_, List.getElem?_eq_getElem (by omega)⟩
      obtain ⟨b, o, rfl, c0, c1, c2, c3, c4, c5, c6, c7, c8⟩ := ul k x hx
      obtain ⟨s1, s2⟩ := rev_step HS.out hx
      have S2 := hide s2
      have hR := HY.out pre x _ wr s1 hJ
      clear s1 s2
      obtain ⟨fn, tmps, assign, body, hy, hR⟩ := hR
      have hlk : (l.take k).reverse.length = k := by simp; omega
      rw [hlk] at hy
      dsimp only [encU] at hy
      have i0 : ((k + 1 : Nat) : Int) - 1 = (k : Int) := by omega
      have i1 : ((k : Int) < (l.length : Nat)) := by omega
      have i2 := W1 k (by omega)
      rw [i0]
      gi_wp2
      refine hR.mono ?_
      rintro e W3 ⟨rfl, hJ3⟩
      gi_wp2
      go_roundw
      case rel => exact ⟨k, pre ++ [x], by first | rfl | rw [i2], by omega, S2, hJ3⟩
      case measure =>
        have m : ∀ x : Int, intOf (.int .i64 x) = x := fun _ => rfl
        simp only [m]
        omega
/-- the call hands the iterator back, its slice in a box -/
theorem backward_in {n : Nat} (p : Option Go.Addr) (m cap : Nat) (w : World) :
    CallsIn Fence.wide n Try.prog 57 #[.slice p m cap] w fun e w' => e = .returned (.func (.func 74) #[] #[.pointer (some ⟨w.heap.size, 0, none⟩)]) ∧ w' = w.alloc (.cells #[.slice p m cap] 51) := by
  refine callsIn_of_wp Try.func57 rfl trivial ?_ rfl
  simp only [Try.ntmps57, List.size_toArray, List.length_cons, List.length_nil, Nat.reduceAdd, Nat.reduceSub, Array.replicate_succ, Array.replicate_zero, List.push_toArray, List.append_toArray, List.nil_append, List.cons_append]
  gi_wp2
  go_ret
  exact ⟨rfl, rfl⟩
end Go.Proofs.Ytpldkgollhbolaa
