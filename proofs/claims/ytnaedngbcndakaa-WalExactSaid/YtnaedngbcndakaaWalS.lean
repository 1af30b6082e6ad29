/-
  One disk with one log that a call has made itself, from call to call. Conditions: as in each contract.
-/
import Derived.Test.YtnaedngbcndakaaWalO
namespace Go.Proofs.Ytnaedngbcndakaa
open Go.RowKit Go.Maps

variable {w0 w w' w1 w2 w3 : World} {d g : Nat} {s s' : Dk} {x p : Nm} {n n' : Nat} {b b' : Bool} {K : Nat → Prop}
/-- since w0 nothing old has changed; memory holds the disk s at d, in new blocks, and no block of K is the disk's -/
def SesD (K : Nat → Prop) (w0 w : World) (d : Nat) (s : Dk) : Prop :=
  ∃ O : Nat → Prop, Fr No w0 w ∧ (∀ i, O i → w0.heap.size ≤ i) ∧ IsDsk w d O s ∧ ∀ i, K i → i < w.heap.size ∧ ¬ O i
/-- and a log on it at g -/
def SesK (K : Nat → Prop) (w0 w : World) (d g : Nat) (x : Nm) (n : Nat) (b : Bool) (s : Dk) : Prop :=
  ∃ O : Nat → Prop, Fr No w0 w ∧ (∀ i, O i → w0.heap.size ≤ i) ∧ IsDsk w d O s ∧ LogAt w g d x n b ∧ ¬ O g ∧ w0.heap.size ≤ g ∧ ∀ i, K i → i < w.heap.size ∧ ¬ O i ∧ i ≠ g
def SK (K : Nat → Prop) (w0 w : World) (d g : Nat) (x : Nm) (v : Value) (n : Nat) (b : Bool) (s : Dk) (e : Ending) (w' : World) : Prop :=
  e = .returned v ∧ SesK K w0 w' d g x n b s ∧ Fr (fun i => ¬ K i) w w'
theorem SesK.fr (h : SesK K w0 w d g x n b s) : Fr No w0 w := by
  obtain ⟨O, h1, _⟩ := h
  exact h1
theorem SesK.disk (h : SesK K w0 w d g x n b s) : SesD K w0 w d s := by
  obtain ⟨O, h1, h2, h3, h4, h5, h6, h7⟩ := h
  exact ⟨O, h1, h2, h3, fun i hi => ⟨(h7 i hi).1, (h7 i hi).2.1⟩⟩
theorem SesK.acts (h : SesK K w0 w d g x n b s) : ∃ O, IsDsk w d O s ∧ ∀ v s' e w', Acts w d O v s' e w' → SK K w0 w d g x v n b s' e w' := by
  obtain ⟨O, h1, h2, h3, h4, h5, h6, h7⟩ := h
  refine ⟨O, h3, fun v s' e w' k => ?_⟩
  obtain ⟨k1, k2, k3⟩ := k
  refine ⟨k1, ⟨Gr O w w', h1.trans k2 (fun i hi e => by have := h2 i e; omega), fun i hi => ?_, k3, h4.fr k2 h5, gr_not h4 h5, h6, fun i hi => ?_⟩, k2.mono (fun i _ ho hk => (h7 i hk).2.1 ho)⟩
  · rcases hi with hi | hi
    · exact h2 i hi
    · exact Nat.le_trans h1.size hi.1
  · obtain ⟨q1, q2, q3⟩ := h7 i hi
    refine ⟨Nat.lt_of_lt_of_le q1 k2.size, fun e => ?_, q3⟩
    rcases e with e | e
    · exact q2 e
    · omega
theorem SesK.actsL (h : SesK K w0 w d g x n b s) : ∃ O, IsDsk w d O s ∧ LogAt w g d x n b ∧ ¬ O g ∧ ∀ v n' b' s' e w', ActsL w d g O x v n' b' s' e w' → SK K w0 w d g x v n' b' s' e w' := by
  obtain ⟨O, h1, h2, h3, h4, h5, h6, h7⟩ := h
  refine ⟨O, h3, h4, h5, fun v n' b' s' e w' k => ?_⟩
  obtain ⟨k1, k2, k3, k4⟩ := k
  refine ⟨k1, ⟨Gr O w w', h1.trans k2 (fun i hi e => ?_), fun i hi => ?_, k3, k4, gr_not h4 h5, h6, fun i hi => ?_⟩, k2.mono (fun i _ ho hk => ?_)⟩
  · rcases e with e | e
    · have := h2 i e; omega
    · omega
  · rcases hi with hi | hi
    · exact h2 i hi
    · exact Nat.le_trans h1.size hi.1
  · obtain ⟨q1, q2, q3⟩ := h7 i hi
    refine ⟨Nat.lt_of_lt_of_le q1 k2.size, fun e => ?_, q3⟩
    rcases e with e | e
    · exact q2 e
    · omega
  · rcases ho with ho | ho
    · exact (h7 i hk).2.1 ho
    · exact (h7 i hk).2.2 ho
/-- memory that isn't the disk's has been written, or new memory made: all of it may be kept from here on -/
theorem SesK.turn {K' S : Nat → Prop} (h : SesK K w0 w d g x n b s) (F : Fr S w w') (hS : ∀ i, S i → K i ∧ w0.heap.size ≤ i) (hK : ∀ i, K' i → K i ∨ (w.heap.size ≤ i ∧ i < w'.heap.size)) : SesK K' w0 w' d g x n b s := by
  obtain ⟨O, h1, h2, h3, h4, h5, h6, h7⟩ := h
  refine ⟨O, h1.trans F (fun i hi e => by have := (hS i e).2; omega), h2, h3.fr F (fun i hi e => (h7 i (hS i e).1).2.1 hi), h4.fr F (fun e => (h7 g (hS g e).1).2.2 rfl), h5, h6, fun i hi => ?_⟩
  rcases hK i hi with k | k
  · exact ⟨Nat.lt_of_lt_of_le (h7 i k).1 F.size, (h7 i k).2⟩
  · exact ⟨k.2, fun e => by have := h3.lt i e; omega, fun e => by have := lt_of_block h4; omega⟩
theorem SesK.no (h : SesK K w0 w d g x n b s) (F : Fr No w w') : SesK K w0 w' d g x n b s := h.turn F (fun _ e => e.elim) (fun _ e => Or.inl e)
theorem sk_tells {v : Value} {e : Ending} (h : SesK K w0 w d g x n b s) (k : Tells w v e w') : SK K w0 w d g x v n b s e w' := ⟨k.1, h.no k.2, k.2.no⟩
theorem sk_same {v : Value} {e : Ending} (h : SesK K w0 w d g x n b s) (k : Same v w e w') : SK K w0 w d g x v n b s e w' := ⟨k.1, k.2 ▸ h, k.2 ▸ Fr.refl _ _⟩
theorem SesD.no (h : SesD K w0 w d s) (F : Fr No w w') : SesD K w0 w' d s := by
  obtain ⟨O, h1, h2, h3, h4⟩ := h
  exact ⟨O, h1.andNo F, h2, h3.no F, fun i hi => ⟨Nat.lt_of_lt_of_le (h4 i hi).1 F.size, (h4 i hi).2⟩⟩
theorem SesD.fr (h : SesD K w0 w d s) : Fr No w0 w := by
  obtain ⟨O, h1, _⟩ := h
  exact h1
/-- nothing to be kept -/
abbrev None' : Nat → Prop := fun _ => False
theorem sd_new (F : Fr No w0 w) : Calls Try.prog 14 #[] w (fun e w' => ∃ d, e = .returned (Pt d) ∧ SesD None' w0 w' d newD) :=
  (new_any w).mono (fun _ _ ⟨d, h1, h2, _, h4⟩ => ⟨d, h1, _, F.andNo h2, fun _ hi => Nat.le_trans F.size hi.1, h4, fun _ e => e.elim⟩)
theorem sd_open (h : SesD K w0 w d s) (hst : s.steps < 4611686018427387904) {x : Nm} (hx : x.length ≤ maxLen) {l : List Nm} (hr : lopenD x s = (0, l, s')) :
    Calls Try.prog 13 #[Pt d, St x] w (fun e w' => ∃ g v, e = .returned (.tuple #[Pt g, v, .int .i64 0]) ∧ SesK (fun i => K i ∨ v.ownBlock = some i) w0 w' d g x (sizeL l) false s' ∧ RowC w' v l ∧ Fr (fun i => ¬ K i) w w') := by
  obtain ⟨O, h1, h2, h3, h4⟩ := h
  have := open_any h3 hst hx
  rw [hr] at this
  refine this.mono (fun e w' k => ?_)
  rcases k with ⟨k0, _⟩ | ⟨_, g, v, O', k1, k2, k3, k4, k5, k6, k7, k8, k9⟩
  · exact absurd rfl k0
  · refine ⟨g, v, k1, ⟨O', h1.trans k2 (fun i hi e => by have := h2 i e; omega), fun i hi => ?_, k6, k4, k8, Nat.le_trans h1.size k3, fun i hi => ?_⟩, k5, k2.mono (fun i _ ho hk => (h4 i hk).2 ho)⟩
    · rcases k7 i hi with q | q
      · exact h2 i q
      · exact Nat.le_trans h1.size q
    · rcases hi with hi | hi
      · obtain ⟨q1, q2⟩ := h4 i hi
        refine ⟨Nat.lt_of_lt_of_le q1 k2.size, fun e => ?_, by omega⟩
        rcases k7 i e with q | q
        · exact q2 q
        · omega
      · obtain ⟨q1, q2, q3, q4⟩ := k9 i hi
        exact ⟨q4, q1, q2⟩
theorem sk_lappend (h : SesK K w0 w d g x n b s) (hst : s.steps < 4611686018427387904) (hx : x.length ≤ maxLen) (hn : n ≤ 4611686018427387904) {c : Int} (hr : lappD x p n b s = (c, (n', b'), s')) :
    Calls Try.prog 17 #[Pt g, St p] w (SK K w0 w d g x (.int .i64 c) n' b' s') := by
  obtain ⟨O, h1, h2, h3, h4⟩ := h.actsL
  have := lappend_any (p := p) h1 h2 h3 hst hx hn
  rw [hr] at this
  exact this.mono (fun _ _ k => h4 _ _ _ _ _ _ k)
theorem sk_lsync (h : SesK K w0 w d g x n b s) (hst : s.steps < 4611686018427387904) (hx : x.length ≤ maxLen) {c : Int} (hr : lsyncD x n b s = (c, (n', b'), s')) :
    Calls Try.prog 19 #[Pt g] w (SK K w0 w d g x (.int .i64 c) n' b' s') := by
  obtain ⟨O, h1, h2, h3, h4⟩ := h.actsL
  have := lsync_any h1 h2 h3 hst hx
  rw [hr] at this
  exact this.mono (fun _ _ k => h4 _ _ _ _ _ _ k)
theorem sk_size (h : SesK K w0 w d g x n b s) : Calls Try.prog 29 #[Pt g] w (SK K w0 w d g x (.int .i64 (n : Int)) n b s) := by
  obtain ⟨O, h1, h2, h3, h4⟩ := h.actsL
  exact (size_log h2).mono (fun _ _ k => sk_same h k)
theorem sk_arm (h : SesK K w0 w d g x n b s) {a keep : Int} (ha : I64 a) (hk : I64 keep) (hr : armD s a keep = s') : Calls Try.prog 21 #[Pt d, .int .i64 a, .int .i64 keep] w (SK K w0 w d g x (.tuple #[]) n b s') := by
  subst hr
  obtain ⟨O, h1, h2⟩ := h.acts
  exact (arm_any h1 ha hk).mono (fun _ _ k => h2 _ _ _ _ k)
theorem sk_off (h : SesK K w0 w d g x n b s) {keep : Int} (hk : I64 keep) (hr : offC s keep = s') : Calls Try.prog 23 #[Pt d, .int .i64 keep] w (SK K w0 w d g x (.tuple #[]) n b s') := by
  subst hr
  obtain ⟨O, h1, h2⟩ := h.acts
  unfold offC
  cases hdn : s.down with
  | true => exact (off_down h1 hdn keep).mono (fun _ _ k => sk_same h k)
  | false => exact (off_any h1 hdn hk).mono (fun _ _ k => h2 _ _ _ _ k)
theorem sk_on (h : SesK K w0 w d g x n b s) (hr : onD s = s') : Calls Try.prog 25 #[Pt d] w (SK K w0 w d g x (.tuple #[]) n b s') := by
  subst hr
  obtain ⟨O, h1, h2⟩ := h.acts
  exact (on_any h1).mono (fun _ _ k => h2 _ _ _ _ k)
theorem sk_read (h : SesK K w0 w d g x n b s) {y : Nm} (hy : y.length ≤ maxLen) {t : Nm} {c : Int} (hr : readD s y = (t, c)) :
    Calls Try.prog 35 #[Pt d, St y] w (SK K w0 w d g x (.tuple #[St t, .int .i64 c]) n b s) := by
  obtain ⟨O, h1, _⟩ := h.acts
  have := read_any h1 hy
  rw [hr] at this
  exact this.mono (fun _ _ k => sk_tells h k)
theorem sk_down (h : SesK K w0 w d g x n b s) {c : Bool} (hr : s.down = c) : Calls Try.prog 33 #[Pt d] w (SK K w0 w d g x (.bool c) n b s) := by
  subst hr
  obtain ⟨O, h1, _⟩ := h.acts
  exact (down_any h1).mono (fun _ _ k => sk_same h k)
theorem same_rows {va vb : Value} {a c : List Nm} (ha : RowS w va a) (hb : RowS w vb c) (hn : a.length < 1099511627776) (h : SesK K w0 w d g x n b s) {q : Bool} (hr : decide (a = c) = q) :
    Calls Try.prog 12 #[va, vb] w (SK K w0 w d g x (.bool q) n b s) := by
  subst hr
  exact (names_any ha hb hn).mono (fun _ _ k => sk_tells h k)
end Go.Proofs.Ytnaedngbcndakaa
