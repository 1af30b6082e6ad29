/-
  Lists of changes in memory. No condition beyond those in each theorem's own statement.
  A range over a function whose rounds get the elements of a given list, each once, in its order; slices.Backward over a list of changes. Condition: the list lies in memory, and the rounds leave it.
  What takes a row of changes back, as mathematics; the blocks of a table, and what writes none of them. No condition beyond those in each theorem's own statement.
-/
import Derived.Test.YtpldkgollhbolaaGreatT7
import Derived.RangeFuncNested
import Derived.RangeFuncBound
import Derived.RangeFuncCalls
import Derived.RangeFuncLeaves
import Derived.Shelf.Abstract
import Derived.Shelf.RegionOpen
import Derived.WalkKit
import Derived.OwnWalkIn
import Derived.TacticsInMore
import Derived.LoopNIn
import Derived.LoopIn
import Derived.Sort.QuietIn
namespace Go.Proofs.YtpldkgollhbolaaGreat
open Go.RowKit Go.Joins

/-- one change at a place of a block -/
def AtC (b o : Nat) (c : Ch) (W : World) : Prop := W.cell? ⟨b, o, none⟩ = some (.bool c.gone) ∧ W.cell? ⟨b, o + 1, none⟩ = some (.int .i64 c.l.kind) ∧ W.cell? ⟨b, o + 2, none⟩ = some (.int .u64 (hi c.l.p : Nat)) ∧ W.cell? ⟨b, o + 3, none⟩ = some (.int .u64 (lo c.l.p : Nat)) ∧
  W.cell? ⟨b, o + 4, none⟩ = some (.int .i64 c.l.n) ∧ W.cell? ⟨b, o + 5, none⟩ = some (.int .i64 c.l.st) ∧ W.cell? ⟨b, o + 6, none⟩ = some (.string c.l.cl) ∧ W.cell? ⟨b, o + 7, none⟩ = some (.int .u32 (c.l.ia : Int)) ∧ W.cell? ⟨b, o + 8, none⟩ = some (.int .i64 c.l.un)
theorem AtC.step {b o : Nat} {c : Ch} {W w2 : World} (h : AtC b o c W) (hb : Below W.heap.size W w2) : AtC b o c w2 := by
  obtain ⟨h0, h1, h2, h3, h4, h5, h6, h7, h8⟩ := h
  exact ⟨keep_cell hb h0, keep_cell hb h1, keep_cell hb h2, keep_cell hb h3, keep_cell hb h4, keep_cell hb h5, keep_cell hb h6, keep_cell hb h7, keep_cell hb h8⟩
/-- a slice that reads as a list -/
def LstC (p : Option Go.Addr) (l : List Ch) (W : World) : Prop := ∀ (k : Nat) (c : Ch), l[k]? = some c → ∃ b o, p = some ⟨b, o, none⟩ ∧ AtC b (o + k * 9) c W
theorem LstC.step {p : Option Go.Addr} {l : List Ch} {W w2 : World} (h : LstC p l W) (hb : Below W.heap.size W w2) : LstC p l w2 := fun k c hk => by
  obtain ⟨b, o, h1, h2⟩ := h k c hk
  exact ⟨b, o, h1, h2.step hb⟩
def okL (l : List Ch) : Prop := ∀ c ∈ l, c.l.ok
def cellsC (l : List Ch) : List Value := (l.map wdC).flatten
theorem cellsC_snoc (l : List Ch) (c : Ch) : cellsC (l ++ [c]) = cellsC l ++ wdC c := by unfold cellsC; simp
theorem cellsC_at : ∀ (l : List Ch) (k i : Nat) (c : Ch), l[k]? = some c → i < 9 → (cellsC l)[k * 9 + i]? = (wdC c)[i]?
  | [], _, _, _, h, _ => by cases h
  | x :: l, 0, i, c, h, hi => by
    simp at h; subst h
    unfold cellsC
    rw [List.map_cons, List.flatten_cons, List.getElem?_append_left (by show 0 * 9 + i < 9; omega), Nat.zero_mul, Nat.zero_add]
  | x :: l, k + 1, i, c, h, hi => by
    have := cellsC_at l k i c (by simpa using h) hi
    unfold cellsC at *
    rw [List.map_cons, List.flatten_cons, List.getElem?_append_right (by show 9 ≤ _; omega)]
    have e : (k + 1) * 9 + i - (wdC x).length = k * 9 + i := by show (k + 1) * 9 + i - 9 = _; omega
    rw [e]; exact this
theorem infoC : (Tryz.prog.info? 41).map (fun i => (i.zero, i.size, i.bytes)) = some (some (.agg #[.bool false, .int .i64 0, .int .u64 0, .int .u64 0, .int .i64 0, .int .i64 0, .string ⟨#[]⟩, .int .u32 0, .int .i64 0]), 9, 80) := by kernel_rfl
/-- a list of the call's own -/
def OwnC (w : World) (base : Nat) (v : Value) (l : List Ch) : Prop := w.ownsRow base 41 9 v l.length (cellsC l)
theorem own_frC {S : Nat → Prop} {a b : World} {base : Nat} {v : Value} {l : List Ch} (h : OwnC a base v l) (k : Fr S a b) (hn : ∀ i, base ≤ i → ¬ S i) : OwnC b base v l := by
  refine ⟨h.1, ?_⟩
  rcases h.2 with hn2 | ⟨g, cap, cur, rfl, h2, h3, h4⟩
  · exact Or.inl hn2
  · exact Or.inr ⟨g, cap, cur, rfl, h2, k.keep h3 (hn g h2), h4⟩
theorem own_list {w : World} {base c : Nat} {p : Option Go.Addr} {l : List Ch} (h : OwnC w base (.slice p l.length c) l) : LstC p l w := by
  intro k x hk
  have hkl : k < l.length := (List.getElem?_eq_some_iff.1 hk).1
  have h2 := h
  unfold OwnC at h2
  rcases h.2 with ⟨hn, h0⟩ | ⟨g, cap, cur, hv, hb, hg, hr⟩
  · have h0 : l.length = 0 := by
      simp at hn
      omega
    omega
  · cases hv
    refine ⟨g, 0, rfl, ?_⟩
    have C : ∀ i, i < 9 → w.cell? ⟨g, 0 + k * 9 + i, none⟩ = (wdC x)[i]? := fun i hi => by
      rw [Nat.zero_add, h2.cellAt (k * 9 + i) (by omega), cellsC_at l k i x hk hi]
    exact ⟨C 0 (by omega), C 1 (by omega), C 2 (by omega), C 3 (by omega), C 4 (by omega), C 5 (by omega), C 6 (by omega), C 7 (by omega), C 8 (by omega)⟩
theorem wd_cell (c : Ch) : ∀ u ∈ wdC c, u.oneCell' = true := by
  intro u hu
  unfold wdC wdL at hu
  simp at hu
  rcases hu with rfl | rfl | rfl | rfl | rfl | rfl | rfl | rfl | rfl <;> rfl
theorem wd_at (W : World) (c : Ch) (t : TypeId) : ∀ j u, (wdC c)[j]? = some u → (W.alloc (.cells #[.bool c.gone, .int .i64 c.l.kind, .int .u64 (hi c.l.p : Nat), .int .u64 (lo c.l.p : Nat), .int .i64 c.l.n, .int .i64 c.l.st, .string c.l.cl, .int .u32 (c.l.ia : Int), .int .i64 c.l.un] t)).cell? ((⟨W.heap.size, 0, none⟩ : Go.Addr).add j) = some u := by
  intro j u hj
  have ha : (⟨W.heap.size, 0, none⟩ : Go.Addr).add j = ⟨W.heap.size, j, none⟩ := by cases j <;> simp [Addr.add]
  rw [ha]
  have h := heap_alloc_new W (.cells #[.bool c.gone, .int .i64 c.l.kind, .int .u64 (hi c.l.p : Nat), .int .u64 (lo c.l.p : Nat), .int .i64 c.l.n, .int .i64 c.l.st, .string c.l.cl, .int .u32 (c.l.ia : Int), .int .i64 c.l.un] t)
  rw [cell_at h j, ← hj, ← Array.getElem?_toList]
  rfl
end Go.Proofs.YtpldkgollhbolaaGreat
namespace Go.Proofs.YtpldkgollhbolaaGreat
open Go.RowKit Go.Joins Go.Maps Go.Shelf
attribute [local go_sem] Oper.semAt_some

/-- a round for each element of xs, in their order -/
def Rounds (n : Nat) (P : Program) (gf : Nat) (lb : Array Value) (enc : Nat → Ch → Array Value) (xs : List Ch) (U : World → Prop) : Prop :=
  ∀ (l : Nat) (J : List Ch → World → Prop) (W : World), (∀ pre W, J pre W → U W) →
    (∀ pre x post W1, xs = pre ++ x :: post → J pre W1 → YieldAt Fence.wide (n - 1) P l (enc post.length x) W1 fun e W' => e = .returned (.bool true) ∧ J (pre ++ [x]) W') →
    J [] W → CallsIn Fence.wide n P gf (#[.func (.yield l) #[] #[]] ++ lb) W fun e W' => (∃ v, e = .returned v) ∧ J xs W'
/-- how a round's body is left -/
def Left (B : Nat) (I : World → Prop) (W : World) : Exit → Act → World → Prop := fun e _ W' => e = .normal ∧ KeepsFrom B W W' ∧ I W'
theorem told_range {P : Program} {n : Nat} {g : Operand} {ps : Array Tmp} {assign body : Code} {Q : Exit → Act → World → Prop} {a : Act} {w : World}
    (h1 : 1 ≤ n) {gf : Nat} {lb : Array Value} (hg : a.eval g = .func (.func gf) #[] lb) (eg : ∀ args w, (callFunc gf args).run P w = .ok (.enter gf args) w)
    {enc : Nat → Ch → Array Value} {xs : List Ch} {U : World → Prop} (hit : Rounds (n - 1) P gf lb enc xs U) (hps : ∀ i x, (enc i x).size = ps.size)
    (I : List Ch → World → Prop) (hI : OwnFrom w.heap.size I) (hU : ∀ pre W, I pre W → U W) (h0 : I [] w) (A : Ch → Act → World → Prop) (hA : ∀ x a', OwnFrom w.heap.size (fun (_ : Unit) W => A x a' W))
    (hassign : ∀ (l : Nat) (pre : List Ch) (i : Nat) (x : Ch) (W : World) (K : Act → World → Prop), I pre W → (∀ a' W', KeepsFrom w.heap.size W W' → I pre W' → A x a' W' → K a' W') →
      assign.wpIn (Fence.wide.inRound l) (n - 1 - 1) P (Exit.then K (fun _ _ _ => False)) { tmps := (ps.zip (enc i x)).foldl (fun t (p, v) => t.setIfInBounds p v) a.tmps, defers := [] } W)
    (hbody : ∀ (l : Nat) (pre : List Ch) (x : Ch) (post : List Ch) (a' : Act) (W : World), xs = pre ++ x :: post → I pre W → A x a' W → body.wpIn (Fence.wide.inRound l) (n - 1 - 1) P (Left w.heap.size (I (pre ++ [x])) W) a' W)
    (hdone : ∀ (D : Nat) (W : World), w.heap.size ≤ D → I xs W → W.heap[D]? = some (.deferred (some [])) → Q .normal { a with defers := { target := .collected D, args := #[] } :: a.defers } W) :
    (Code.rangeFunc g ps assign body).wpIn Fence.wide n P Q a w := by
  refine wpIn_rangeFunc fun fn hfn => ?_
  let R (s : LoopState) : Loop := { state := s, pending := none, fn, tmps := a.tmps, params := ps, assign, body, defers := w.heap.size }
  let V := (w.alloc (.deferred (some []))).alloc (.loop (R .ready))
  -- the law's two blocks: the loop's own, that of the calls put off
  let Two (s : LoopState) (W : World) : Prop := W.heap[w.heap.size + 1]? = some (.loop (R s)) ∧ W.heap[w.heap.size]? = some (.deferred (some []))
  have two0 : Two .ready V := by
    refine ⟨?_, (Below.heap_alloc _ _ _ (by simp)).trans (World.alloc_heap_new w _)⟩
    have := World.alloc_heap_new (w.alloc (.deferred (some []))) (.loop (R .ready))
    rwa [World.size_alloc] at this
  have turn : ∀ {s : LoopState} {W : World} (s2 : LoopState), Two s W → Two s2 (W.putObj (w.heap.size + 1) (.loop (R s2))) := fun s2 h =>
    ⟨World.putObj_heap_same (Array.getElem?_eq_some_iff.1 h.1).1, (World.putObj_heap_other (by omega)).trans h.2⟩
  have keep : ∀ {s : LoopState} {W W' : World}, KeepsFrom w.heap.size W W' → Two s W → Two s W' := fun k h => ⟨k.same _ _ (by omega) h.1 rfl, k.same _ _ (Nat.le_refl _) h.2 rfl⟩
  refine ⟨w.heap.size + 1, [{ target := .collected w.heap.size, args := #[] }], V, { target := .fn (.func gf) lb, args := #[.func (.yield (w.heap.size + 1)) #[] #[]] }, V, gf,
    #[.func (.yield (w.heap.size + 1)) #[] #[]] ++ lb, V, run_enterLoop_outer _ _ _ _ _, ?_, fun _ _ => trivial, ?_, fun _ => h1, ?_⟩
  · simp only [resolve, hg]
    simp [go_sem]
  · simp [invoke, go_sem, eg]
  refine (hit (w.heap.size + 1) (fun pre W => I pre W ∧ Two .ready W) V (fun pre W h => hU pre W h.1) ?_ ⟨hI.alloc _ (hI.alloc _ h0), two0⟩).mono ?_
  · rintro pre x post W hx ⟨hi, ht⟩
    refine ⟨fn, _, assign, body, run_yield ht.1 (hps _ x), roundIn_of_wpIn hfn (hassign _ pre _ x W _ hi ?_)⟩
    intro a' W1 hk1 hi1 ha1
    have ht1 := keep hk1 ht
    refine ⟨_, run_beginRound ht1.1 rfl, ?_⟩
    refine wpIn_mono (hbody _ pre x post a' _ hx (hI.putObj _ hi1 (by omega) ht1.1 rfl) ((hA x a').putObj (s := ()) _ ha1 (by omega) ht1.1 rfl)) ?_
    rintro e a2 W2 ⟨rfl, hk2, hi2⟩
    have ht2 := keep hk2 (turn .busy ht1)
    exact ⟨_, _, run_endRound none ht2.1, rfl, hI.putObj _ hi2 (by omega) ht2.1 rfl, turn .ready ht2⟩
  · rintro e W ⟨⟨v, rfl⟩, hi, ht⟩
    exact ⟨none, _, run_endLoop ht.1 (by simp [R]), hdone _ _ (Nat.le_refl _) (hI.putObj _ hi (by omega) ht.1 rfl) (turn .exhausted ht).2⟩

/-! ### slices.Backward -/
/-- the list lies in memory, its slice in a box -/
def HoldsU (b : Nat) (p : Option Go.Addr) (cap : Nat) (l : List Ch) (W : World) : Prop := W.cell? ⟨b, 0, none⟩ = some (.slice p l.length cap) ∧ LstC p l W
abbrev encU (i : Nat) (x : Ch) : Array Value := #[.int .i64 (i : Int), Cv x]
theorem len_snoc {l pre : List Ch} {k : Nat} (h : l = (l.take k) ++ pre.reverse) (hk : k ≤ l.length) : pre.length = l.length - k := by
  have := congrArg List.length h
  simp at this; omega
theorem rev_step {l pre : List Ch} {k : Nat} (h : l = l.take (k + 1) ++ pre.reverse) {x : Ch} (hx : l[k]? = some x) : l.reverse = pre ++ x :: (l.take k).reverse ∧ l = l.take k ++ (pre ++ [x]).reverse := by
  have e : l.take (k + 1) = l.take k ++ [x] := by rw [List.take_add_one, hx]; rfl
  constructor
  · conv => lhs; rw [h, e]
    simp
  · conv => lhs; rw [h, e]
    simp
set_option maxRecDepth 100000 in
set_option maxHeartbeats 2000000 in
theorem backward1_in (n : Nat) (hn : 1 ≤ n) (Bn : Nat) (p : Option Go.Addr) (cap : Nat) (l : List Ch) (hl : l.length ≤ maxLen) :
    Rounds n Tryz.prog 67 #[.pointer (some ⟨Bn, 0, none⟩)] encU l.reverse (HoldsU Bn p cap l) := by
  intro lp J W hJU hY h0
  refine callsIn_of_wp Tryz.func67 rfl trivial ?_ rfl
  simp only [Tryz.ntmps67, List.size_toArray, List.length_cons, List.length_nil, Nat.reduceAdd, Nat.reduceSub, Array.replicate_succ, Array.replicate_zero, List.push_toArray, List.append_toArray, List.nil_append, List.cons_append]
  have U0 := (hJU _ _ h0).1
  have HY := hide hY
  have HU := hide hJU
  have HL := hide hl
  clear hY hJU hl
  have W1 : ∀ k : Nat, k ≤ l.length → IntKind.i64.wrap ((k : Int) - 1) = (k : Int) - 1 := fun k hk => by have := HL.out; unfold maxLen at this; rw [IntKind.wrap_i64]; omega
  have W0 := W1 l.length (Nat.le_refl _)
  gi_wp2
  gi_loopw [3] (fun r wr => ∃ (k : Nat) (pre : List Ch), r = .int .i64 ((k : Int) - 1) ∧ k ≤ l.length ∧ Hid (l = l.take k ++ pre.reverse) ∧ J pre wr)
    (fun r _ => (intOf r + 1).toNat)
  case atStart => exact ⟨l.length, [], by first | rfl | rw [W0], Nat.le_refl _, hide (by simp), h0⟩
  case round =>
    obtain ⟨k, pre, rfl, hk, HS, hJ⟩ := hrel
    obtain ⟨uc, ul⟩ := HU.out _ _ hJ
    cases k with
    | zero =>
      have hd := hide (show pre = l.reverse by have := HS.out; simp at this; rw [this]; simp)
      gi_wp2
      go_end0
      exact ⟨⟨_, rfl⟩, hd.out ▸ hJ⟩
    | succ k =>
      obtain ⟨x, hx⟩ : ∃ x, l[k]? = some x := ⟨_, List.getElem?_eq_getElem (by omega)⟩
      obtain ⟨b, o, rfl, c0, c1, c2, c3, c4, c5, c6, c7, c8⟩ := ul k x hx
      obtain ⟨s1, s2⟩ := rev_step HS.out hx
      have S2 := hide s2
      have hR := HY.out pre x _ wr s1 hJ
      clear s1 s2
      obtain ⟨fn, tmps, assign, body, hy, hR⟩ := hR
      have hlk : (l.take k).reverse.length = k := by simp; omega
      rw [hlk] at hy
      dsimp only [encU] at hy
      have i0 : ((k + 1 : Nat) : Int) - 1 = (k : Int) := by omega
      have i1 : ((k : Int) < (l.length : Nat)) := by omega
      have i2 := W1 k (by omega)
      rw [i0]
      gi_wp2
      refine hR.mono ?_
      rintro e W3 ⟨rfl, hJ3⟩
      gi_wp2
      go_roundw
      case rel => exact ⟨k, pre ++ [x], by first | rfl | rw [i2], by omega, S2, hJ3⟩
      case measure =>
        have m : ∀ x : Int, intOf (.int .i64 x) = x := fun _ => rfl
        simp only [m]
        omega
/-- the call hands the iterator back, its slice in a box -/
theorem backward_in {n : Nat} (p : Option Go.Addr) (m cap : Nat) (w : World) :
    CallsIn Fence.wide n Tryz.prog 49 #[.slice p m cap] w fun e w' => e = .returned (.func (.func 67) #[] #[.pointer (some ⟨w.heap.size, 0, none⟩)]) ∧ w' = w.alloc (.cells #[.slice p m cap] 36) := by
  refine callsIn_of_wp Tryz.func49 rfl trivial ?_ rfl
  simp only [Tryz.ntmps49, List.size_toArray, List.length_cons, List.length_nil, Nat.reduceAdd, Nat.reduceSub, Array.replicate_succ, Array.replicate_zero, List.push_toArray, List.append_toArray, List.nil_append, List.cons_append]
  gi_wp2
  go_ret
  exact ⟨rfl, rfl⟩
end Go.Proofs.YtpldkgollhbolaaGreat
namespace Go.Proofs.YtpldkgollhbolaaGreat
open Go.RowKit Go.Joins Go.Maps

/-- changes that may be made, one after another -/
def okB : List Ls → List Ch → Prop
  | _, [] => True
  | L, c :: cs => (c.l.ok ∧ (c.gone = false → GoodL (c.l :: restL L c.l))) ∧ okB (chgL L c) cs
/-- what takes each of the changes back, in the order in which they were made -/
def backs : List Ls → List Ch → List Ch
  | _, [] => []
  | L, c :: cs => backL L c :: backs (chgL L c) cs
theorem applyG_append : ∀ (L : List Ls) (a b : List Ch), applyG L (a ++ b) = applyG (applyG L a) b
  | _, [], _ => rfl
  | L, c :: a, b => applyG_append (chgL L c) a b
theorem okB_append : ∀ (L : List Ls) (a b : List Ch), okB L (a ++ b) ↔ okB L a ∧ okB (applyG L a) b
  | _, [], _ => ⟨fun h => ⟨trivial, h⟩, fun h => h.2⟩
  | L, c :: a, b => by
    show (_ ∧ okB (chgL L c) (a ++ b)) ↔ (_ ∧ okB (chgL L c) a) ∧ _
    rw [okB_append (chgL L c) a b]
    exact ⟨fun ⟨x, y, z⟩ => ⟨⟨x, y⟩, z⟩, fun ⟨⟨x, y⟩, z⟩ => ⟨x, y, z⟩⟩
theorem backs_snoc : ∀ (L : List Ls) (a : List Ch) (c : Ch), backs L (a ++ [c]) = backs L a ++ [backL (applyG L a) c]
  | _, [], _ => rfl
  | L, x :: a, c => by
    show backL L x :: backs (chgL L x) (a ++ [c]) = _
    rw [backs_snoc (chgL L x) a c]; rfl
theorem backs_len : ∀ (L : List Ls) (a : List Ch), (backs L a).length = a.length
  | _, [] => rfl
  | L, x :: a => by show (backs (chgL L x) a).length + 1 = _; rw [backs_len]; rfl
theorem applyE_snoc : ∀ (L : List Ls) (a : List Ch) (c : Ch), applyE L a = 0 → applyE L (a ++ [c]) = errL (applyG L a) c
  | L, [], c, _ => by
    show (if errL L c = 0 then applyE (chgL L c) [] else errL L c) = errL L c
    split
    · rename_i h; rw [h]; rfl
    · rfl
  | L, x :: a, c, h => by
    unfold applyE at h
    show (if errL L x = 0 then applyE (chgL L x) (a ++ [c]) else errL L x) = _
    by_cases h0 : errL L x = 0
    · rw [if_pos h0] at h ⊢
      exact applyE_snoc (chgL L x) a c h
    · rw [if_neg h0] at h; exact absurd h h0
theorem applyE_stop : ∀ (L : List Ls) (a : List Ch) (c : Ch) (b : List Ch), applyE L a = 0 → errL (applyG L a) c ≠ 0 → applyE L (a ++ c :: b) = errL (applyG L a) c
  | L, [], c, b, _, hc => by
    exact if_neg hc
  | L, x :: a, c, b, h, hc => by
    unfold applyE at h
    show (if errL L x = 0 then applyE (chgL L x) (a ++ c :: b) else errL L x) = _
    by_cases h0 : errL L x = 0
    · rw [if_pos h0] at h ⊢
      exact applyE_stop (chgL L x) a c b h hc
    · rw [if_neg h0] at h; exact absurd h h0
/-- what can be made, once its error is none -/
theorem chg_may {L : List Ls} {c : Ch} (h : TabL L) (ho : c.l.ok) (he : errL L c = 0) : c.gone = false → GoodL (c.l :: restL L c.l) := fun hg => by
  have t := (chg_tab h ho he).good
  unfold chgL at t
  rw [if_neg (by rw [hg]; simp)] at t
  exact t.perm (putL_perm ..)
/-- the row of what takes changes back may be made from its end on, and leaves what was there -/
theorem take_back : ∀ (cs : List Ch) {L : List Ls}, TabL L → (∀ c ∈ cs, c.l.ok) → applyE L cs = 0 → okB (applyG L cs) (backs L cs).reverse ∧ applyG (applyG L cs) (backs L cs).reverse = L
  | [], L, _, _, _ => ⟨trivial, rfl⟩
  | c :: cs, L, h, ho, he => by
    unfold applyE at he
    by_cases h0 : errL L c = 0
    · rw [if_pos h0] at he
      have hc := ho c List.mem_cons_self
      obtain ⟨i1, i2⟩ := take_back cs (chg_tab h hc h0) (fun x hx => ho x (List.mem_cons_of_mem _ hx)) he
      have hb := back_chg h h0
      have hk := (back_ok h hc).1
      have e : (backs L (c :: cs)).reverse = (backs (chgL L c) cs).reverse ++ [backL L c] := List.reverse_cons
      have e2 : applyG L (c :: cs) = applyG (chgL L c) cs := rfl
      rw [e, e2]
      refine ⟨(okB_append ..).2 ⟨i1, ?_⟩, ?_⟩
      · rw [i2]
        refine ⟨⟨hk, fun hg => ?_⟩, trivial⟩
        have t := h.good
        rw [← hb] at t
        unfold chgL at t
        rw [if_neg (by rw [hg]; simp)] at t
        exact t.perm (putL_perm ..)
      · rw [applyG_append, i2]; exact hb
    · rw [if_neg h0] at he; exact absurd he h0

variable {w w' W W' : World} {t km om : Nat} {O : Nat → Prop} {v : Value} {E : List En} {L : List Ls}
/-- the blocks of a table -/
def Tg (t km om : Nat) (v : Value) (E : List En) : Nat → Prop := fun k => k = t ∨ k = km ∨ k = om ∨ v.ownBlock = some k ∨ ∃ e ∈ E, e.1 = k
theorem TabE.tight (h : TabE w t km om O v E) : TabE w t km om (Tg t km om v E) v E :=
  ⟨⟨h.ends.tab, h.ends.row, h.ends.node, ⟨Or.inl rfl, fun k hk => Or.inr (Or.inr (Or.inr (Or.inl hk))), fun e he => Or.inr (Or.inr (Or.inr (Or.inr ⟨e, he, rfl⟩)))⟩,
    fun k hk => by
      rcases hk with rfl | rfl | rfl | hk | ⟨e, he, rfl⟩
      · exact h.ends.lt _ h.ends.own.1
      · exact h.ends.lt _ h.ownK.1
      · exact h.ends.lt _ h.ownK.2
      · exact h.ends.lt _ (h.ends.own.2.1 _ hk)
      · exact h.ends.lt _ (h.ends.own.2.2 e he), h.ends.len, h.ends.frm⟩, h.keys, h.owns, h.heap, h.good, ⟨Or.inr (Or.inl rfl), Or.inr (Or.inr (Or.inl rfl))⟩, h.ne⟩
theorem TabE.tgO (h : TabE w t km om O v E) : ∀ k, Tg t km om v E k → O k := fun k hk => by
  rcases hk with rfl | rfl | rfl | hk | ⟨e, he, rfl⟩
  · exact h.ends.own.1
  · exact h.ownK.1
  · exact h.ownK.2
  · exact h.ends.own.2.1 _ hk
  · exact h.ends.own.2.2 e he
/-- but for its two maps a table's blocks are cells -/
theorem TabE.tgCells (h : TabE w t km om O v E) : ∀ k, Tg t km om v E k → k = km ∨ k = om ∨ ∃ cur ty fz, w.heap[k]? = some (.cells cur ty fz) := fun k hk => by
  rcases hk with rfl | rfl | rfl | hk | ⟨e, he, rfl⟩
  · exact Or.inr (Or.inr ⟨_, _, _, h.ends.tab⟩)
  · exact Or.inl rfl
  · exact Or.inr (Or.inl rfl)
  · obtain ⟨g, cap, hv⟩ := h.ends.frm
    subst hv
    obtain ⟨cur, hg⟩ := h.ends.rowT
    obtain rfl : g = k := by simpa [Value.ownBlock] using hk
    exact Or.inr (Or.inr ⟨_, _, _, hg⟩)
  · obtain ⟨i, hi⟩ := List.mem_iff_getElem?.1 he
    exact Or.inr (Or.inr ⟨_, _, _, h.ends.node i e hi⟩)
/-- what writes only the table's blocks leaves what is no cells and lies behind its maps -/
theorem KeepsFrom.ofTab {B : Nat} (h : TabE w t km om O v E) (f : Fr (Tg t km om v E) w w') (hk : km < B) (ho : om < B) : KeepsFrom B w w' := by
  refine ⟨f.size, fun k o hB hk2 hc => f.keep hk2 (fun ht => ?_)⟩
  rcases h.tgCells k ht with e | e | ⟨cur, ty, fz, e⟩
  · omega
  · omega
  · rw [hk2] at e; cases e; cases hc
/-- a table abides what the walk's own blocks go through -/
theorem TabE.abides {B : Nat} (h : TabE w t km om O v E) (hk : km < B) (ho : om < B) {row : Option Nat} (hg : w.grownBy w' row) (hr : ∀ r, row = some r → B ≤ r ∧ ∃ o : Obj, w.heap[r]? = some o ∧ o.isCells = false) : TabE w' t km om O v E := by
  have f := Fr.grown hg
  refine (h.tight.fr f (fun k ht e => ?_)).wider h.tgO (fun k hO => Nat.lt_of_lt_of_le (h.ends.lt k hO) f.size)
  obtain ⟨hB, o, h1, h2⟩ := hr k e.symm
  rcases h.tgCells k ht with e | e | ⟨cur, ty, fz, e⟩
  · omega
  · omega
  · rw [h1] at e; cases e; cases h2
end Go.Proofs.YtpldkgollhbolaaGreat
