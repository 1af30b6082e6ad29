/-
  The walk of SpanMemory: it returns true. Condition: the words are words of 64 bits (every value of the types is such).
-/
import Derived.Test.YtbgkeeodeggleaaSpanAp
import Derived.Test.YtbgkeeodeggleaaSpanMm
namespace Go.Proofs.Ytbgkeeodeggleaa
open Go.RowKit Go.Joins

/-- all that is newer than lo stays -/
def Ab (V : World) (top : Nat) (W : World) : Prop := V.heap.size ≤ W.heap.size ∧ ∀ k, top ≤ k → k < V.heap.size → W.heap[k]? = V.heap[k]?
theorem Ab.refl (V : World) (top : Nat) : Ab V top V := ⟨Nat.le_refl _, fun _ _ _ => rfl⟩
theorem Ab.step {V W W2 : World} {top : Nat} (h : Ab V top W) (hb : Below W.heap.size W W2) : Ab V top W2 :=
  ⟨Nat.le_trans h.1 hb.size, fun k h1 h2 => by rw [hb.block k (Nat.lt_of_lt_of_le h2 h.1)]; exact h.2 k h1 h2⟩
theorem Ab.set {V W : World} {top : Nat} (h : Ab V top W) {p : Go.Addr} (hp : p.block < top) (u : Value) : Ab V top (W.setCell p u) :=
  ⟨by simpa using h.1, fun k h1 h2 => by rw [Below.heap_setCell W p u k (by omega)]; exact h.2 k h1 h2⟩
theorem own_ab {V W : World} {base n size top : Nat} {e : TypeId} {v : Value} {xs : List Value} (h : V.ownsRow base e size v n xs) (hab : Ab V top W) (hlo : top ≤ base) : W.ownsRow base e size v n xs := by
  refine ⟨h.1, ?_⟩
  rcases h.2 with hn | ⟨g, cap, cur, h1, h2, h3, h4⟩
  · exact Or.inl hn
  · have hl : g < V.heap.size := by
      rcases Nat.lt_or_ge g V.heap.size with h' | h'
      · exact h'
      · rw [Array.getElem?_eq_none h'] at h3; cases h3
    exact Or.inr ⟨g, cap, cur, h1, h2, by rw [hab.2 g (by omega) hl]; exact h3, h4⟩
theorem own_below {V W : World} {base n size n0 : Nat} {e : TypeId} {v : Value} {xs : List Value} (h : V.ownsRow base e size v n xs) (hb : Below n0 V W) (hlt : ∀ k, v.ownBlock = some k → k < n0) : W.ownsRow base e size v n xs := by
  refine ⟨h.1, ?_⟩
  rcases h.2 with hn | ⟨g, cap, cur, rfl, h2, h3, h4⟩
  · exact Or.inl hn
  · exact Or.inr ⟨g, cap, cur, rfl, h2, by rw [hb.block g (hlt g rfl)]; exact h3, h4⟩
theorem less_nil (l : List Rg) : lessL l [] = l := by
  unfold lessL
  have : ∀ x : Rg, restL x (holesL [] x) = [x] := fun x => by
    rw [show holesL [] x = [] from by unfold holesL; simp]
    exact rest_nil x
  simp only [this]
  simp
/-- what a call gives that makes a list: the list, and an error -/
def GivesE (P : List Rg) (E : Int) (w : World) (e : Ending) (w' : World) : Prop := ∃ v, e = .returned (.tuple #[v, .int .i64 E]) ∧ Below w.heap.size w w' ∧ Own w' w.heap.size v P
theorem givesE_ok {P : List Rg} {w : World} {e : Ending} {w' : World} (h : PutGives P w e w') : GivesE P 0 w e w' := h
theorem givesE_bad {w : World} {e : Ending} {w' : World} (h : Gives (.tuple #[.slice none 0 0, .int .i64 1]) w e w') : GivesE [] 1 w e w' := ⟨_, h.1, h.2, World.ownsRow_nil _ _ _ _⟩
theorem row_two (V : World) (x y : Rg) (t : TypeId) : RowR V.heap.size 0 [x, y] (V.alloc (.cells #[.int .u64 (hi x.1 : Nat), .int .u64 (lo x.1 : Nat), .int .u64 (hi x.2 : Nat), .int .u64 (lo x.2 : Nat), .int .u64 (hi y.1 : Nat), .int .u64 (lo y.1 : Nat), .int .u64 (hi y.2 : Nat), .int .u64 (lo y.2 : Nat)] t)) := by
  refine ⟨by simp, fun j z hz => ?_⟩
  match j, hz with
  | 0, hz => simp at hz; subst hz; refine ⟨?_, ?_, ?_, ?_⟩ <;> simp [go_sem]
  | 1, hz => simp at hz; subst hz; refine ⟨?_, ?_, ?_, ?_⟩ <;> simp [go_sem]
  | j + 2, hz => simp at hz
theorem small_rg (n : Nat) (hn : n < 1000) (W : World) : Calls Try.prog 33 #[.int .u64 (n : Int), .int .u64 (n : Int)] W (Gives (RV (n, n)) W) := by
  have h1 : hi n = 0 := by unfold hi; omega
  have h2 : lo n = n := by unfold lo; omega
  refine via (small_any n n W) ?_
  show _ = Value.agg #[.int .u64 (hi n : Nat), .int .u64 (lo n : Nat), .int .u64 (hi n : Nat), .int .u64 (lo n : Nat)]
  rw [h1, h2]
  rfl
/-- what Put and Drop do with the same set and range -/
theorem acts_of {s : List Rg} {r : Rg} (g1 : Snd s) (g2 : FitL s) (g3 : s.length ≤ 200) (fr : FitR r) : ∃ (P D : List Rg) (E : Int), P.length ≤ 1000 ∧ D.length ≤ 1000 ∧
    (∀ W v, Lst v s W → Calls Try.prog 11 #[v, RV r] W (GivesE P E W)) ∧ (∀ W v, Lst v s W → Calls Try.prog 16 #[v, RV r] W (GivesE D E W)) := by
  cases h : okR r with
  | true =>
    have hr : r.1 ≤ r.2 := by simpa [okR] using h
    refine ⟨putL s r, lessL s [r], 0, ?_, ?_, fun W v H => (put_any g2 fr (sound_snd.2 g1) h (by omega) W H).mono fun _ _ k => givesE_ok k, fun W v H => (drop_any g2 fr (sound_snd.2 g1) h (by omega) W H).mono fun _ _ k => givesE_ok k⟩
    · have := put_len g1 hr; omega
    · have := crude (l := s) (o := [r]) s.length (Nat.le_refl _)
      rw [List.take_length, List.length_singleton] at this
      omega
  | false => exact ⟨[], [], 1, by simp, by simp, fun W v H => (put_bad g2 (by omega) (Or.inr h) W H).mono fun _ _ k => givesE_bad k, fun W v H => (drop_bad g2 fr (Or.inr h) (by omega) W H).mono fun _ _ k => givesE_bad k⟩
end Go.Proofs.Ytbgkeeodeggleaa
