/-
  The program's disk with its log and the document's own, which do not meet, from call to call. Conditions: an int is one of 64 bits, a string is no longer than an int, fewer than 2^62 operations have been answered OK, a log's size is below 2^62.
-/
import Derived.Test.YtnaedngbcndakaaWalRo
namespace Go.Proofs.Ytnaedngbcndakaa
open Go.RowKit Go.Maps

variable {v w w' w1 w2 : World} {d e : Nat} {lv mv : Value} {x p : Nm} {O Q K : Nat → Prop} {s s' t t' : Dk}
abbrev LS := Option (Nat × Bool)
def wAppD (x p : Nm) : LS → Dk → Int × LS × Dk
  | none, s => (2, none, s)
  | some (n, b), s => ((lappD x p n b s).1, some (lappD x p n b s).2.1, (lappD x p n b s).2.2)
def wSyncD (x : Nm) : LS → Dk → Int × LS × Dk
  | none, s => (2, none, s)
  | some (n, b), s => ((lsyncD x n b s).1, some (lsyncD x n b s).2.1, (lsyncD x n b s).2.2)
def wSizeD : LS → Nat
  | none => 0
  | some (n, _) => n
/-- a log's value, beside what is its disk's own -/
def LogV (w : World) (d : Nat) (lv : Value) (x : Nm) (Od O : Nat → Prop) : LS → Prop
  | none => lv = .pointer none
  | some (n, b) => ∃ g, lv = Pt g ∧ LogAt w g d x n b ∧ ¬ Od g ∧ O g
/-- memory holds the disk and its log; all that is their own lies in O -/
def Side (w : World) (d : Nat) (lv : Value) (x : Nm) (O : Nat → Prop) (L : LS) (s : Dk) : Prop := ∃ Od : Nat → Prop, (∀ i, Od i → O i) ∧ IsDsk w d Od s ∧ LogV w d lv x Od O L ∧ ∀ i, O i → i < w.heap.size
def SideActs (w : World) (d : Nat) (x : Nm) (O : Nat → Prop) (y lv : Value) (L : LS) (s : Dk) (en : Ending) (w' : World) : Prop :=
  en = .returned y ∧ Fr O w w' ∧ ∃ O' : Nat → Prop, (∀ i, O' i → O i ∨ w.heap.size ≤ i) ∧ Side w' d lv x O' L s
theorem Side.fr {L : LS} (h : Side w d lv x O L s) {S : Nat → Prop} (F : Fr S w w') (hS : ∀ i, O i → ¬ S i) : Side w' d lv x O L s := by
  obtain ⟨Od, h1, h2, h3, h4⟩ := h
  refine ⟨Od, h1, h2.fr F (fun i hi => hS i (h1 i hi)), ?_, fun i hi => Nat.lt_of_lt_of_le (h4 i hi) F.size⟩
  match L, h3 with
  | none, h3 => exact h3
  | some (n, b), ⟨g, k1, k2, k3, k4⟩ => exact ⟨g, k1, k2.fr F (hS g k4), k3, k4⟩
theorem Side.no {L : LS} (h : Side w d lv x O L s) (F : Fr No w w') : Side w' d lv x O L s := h.fr F (fun _ _ e => e)
theorem Side.acts {L : LS} (h : Side w d lv x O L s) : ∃ Od, IsDsk w d Od s ∧ ∀ y s' en w', Acts w d Od y s' en w' → SideActs w d x O y lv L s' en w' := by
  obtain ⟨Od, h1, h2, h3, h4⟩ := h
  refine ⟨Od, h2, fun y s' en w' k => ?_⟩
  obtain ⟨k1, k2, k3⟩ := k
  refine ⟨k1, k2.mono (fun i _ e => h1 i e), Gr O w w', fun i hi => ?_, Gr Od w w', fun i hi => ?_, k3, ?_, gr_lt h4 k2.size⟩
  · rcases hi with hi | hi
    · exact Or.inl hi
    · exact Or.inr hi.1
  · rcases hi with hi | hi
    · exact Or.inl (h1 i hi)
    · exact Or.inr hi
  · match L, h3 with
    | none, h3 => exact h3
    | some (n, b), ⟨g, q1, q2, q3, q4⟩ => exact ⟨g, q1, q2.fr k2 q3, gr_not q2 q3, Or.inl q4⟩
theorem side_of {L : LS} {y : Value} {en : Ending} (h : Side w d lv x O L s) (F : Fr No w w') (he : en = .returned y) : SideActs w d x O y lv L s en w' := ⟨he, F.no, O, fun _ e => Or.inl e, h.no F⟩
theorem side_lapp {L : LS} (h : Side w d lv x O L s) (hst : s.steps < 4611686018427387904) (hx : x.length ≤ maxLen) (hn : wSizeD L ≤ 4611686018427387904) :
    Calls Try.prog 17 #[lv, St p] w (SideActs w d x O (.int .i64 (wAppD x p L s).1) lv (wAppD x p L s).2.1 (wAppD x p L s).2.2) := by
  have H := h
  obtain ⟨Od, h1, h2, h3, h4⟩ := h
  match L, h3 with
  | none, h3 =>
    obtain rfl := h3
    exact (lappend_nil _ w).mono (fun _ _ k => side_of H (k.2 ▸ Fr.refl _ _) k.1)
  | some (n, b), ⟨g, q1, q2, q3, q4⟩ =>
    subst q1
    refine (lappend_any h2 q2 q3 hst hx hn).mono (fun en w' k => ?_)
    obtain ⟨k1, k2, k3, k4⟩ := k
    refine ⟨k1, k2.mono (fun i _ e => e.elim (h1 i) (fun e => e ▸ q4)), Gr O w w', fun i hi => ?_, Gr Od w w', fun i hi => ?_, k3, ⟨g, rfl, k4, gr_not q2 q3, Or.inl q4⟩, gr_lt h4 k2.size⟩
    · rcases hi with hi | hi
      · exact Or.inl hi
      · exact Or.inr hi.1
    · rcases hi with hi | hi
      · exact Or.inl (h1 i hi)
      · exact Or.inr hi
theorem side_lsync {L : LS} (h : Side w d lv x O L s) (hst : s.steps < 4611686018427387904) (hx : x.length ≤ maxLen) :
    Calls Try.prog 19 #[lv] w (SideActs w d x O (.int .i64 (wSyncD x L s).1) lv (wSyncD x L s).2.1 (wSyncD x L s).2.2) := by
  have H := h
  obtain ⟨Od, h1, h2, h3, h4⟩ := h
  match L, h3 with
  | none, h3 =>
    obtain rfl := h3
    exact (lsync_nil w).mono (fun _ _ k => side_of H (k.2 ▸ Fr.refl _ _) k.1)
  | some (n, b), ⟨g, q1, q2, q3, q4⟩ =>
    subst q1
    refine (lsync_any h2 q2 q3 hst hx).mono (fun en w' k => ?_)
    obtain ⟨k1, k2, k3, k4⟩ := k
    refine ⟨k1, k2.mono (fun i _ e => e.elim (h1 i) (fun e => e ▸ q4)), Gr O w w', fun i hi => ?_, Gr Od w w', fun i hi => ?_, k3, ⟨g, rfl, k4, gr_not q2 q3, Or.inl q4⟩, gr_lt h4 k2.size⟩
    · rcases hi with hi | hi
      · exact Or.inl hi
      · exact Or.inr hi.1
    · rcases hi with hi | hi
      · exact Or.inl (h1 i hi)
      · exact Or.inr hi
theorem side_size {L : LS} (h : Side w d lv x O L s) : Calls Try.prog 29 #[lv] w (Same (.int .i64 (wSizeD L : Nat)) w) := by
  obtain ⟨Od, h1, h2, h3, h4⟩ := h
  match L, h3 with
  | none, h3 =>
    obtain rfl := h3
    exact size_log_nil w
  | some (n, b), ⟨g, q1, q2, q3, q4⟩ =>
    subst q1
    exact size_log q2
theorem side_open_ok {L : LS} (h : Side w d lv x O L s) (hst : s.steps < 4611686018427387904) (hx : x.length ≤ maxLen) {l : List Nm} (hr : lopenD x s = (0, l, s')) :
    Calls Try.prog 13 #[Pt d, St x] w (fun en w' => ∃ g u, en = .returned (.tuple #[Pt g, u, .int .i64 0]) ∧ Fr O w w' ∧ RowS w' u l ∧
      ∃ O' : Nat → Prop, (∀ i, O' i → O i ∨ w.heap.size ≤ i) ∧ Side w' d (Pt g) x O' (some (sizeL l, false)) s' ∧ ∀ i, u.ownBlock = some i → ¬ O' i ∧ w.heap.size ≤ i ∧ i < w'.heap.size) := by
  obtain ⟨Od, h1, h2, h3, h4⟩ := h
  have := open_any h2 hst hx
  rw [hr] at this
  refine this.mono (fun en w' k => ?_)
  rcases k with ⟨k0, _⟩ | ⟨_, g, u, O', k1, k2, k3, k4, k5, k6, k7, k8, k9⟩
  · exact absurd rfl k0
  · refine ⟨g, u, k1, k2.mono (fun i _ e => h1 i e), k5.1, fun i => O' i ∨ i = g, fun i hi => ?_, ⟨O', fun _ e => Or.inl e, k6, ⟨g, rfl, k4, k8, Or.inr rfl⟩, fun i hi => ?_⟩, fun i hi => ?_⟩
    · rcases hi with hi | hi
      · exact (k7 i hi).imp (h1 i) id
      · exact Or.inr (hi ▸ k3)
    · rcases hi with hi | hi
      · exact k6.lt i hi
      · exact hi ▸ lt_of_block k4
    · obtain ⟨q1, q2, q3, q4⟩ := k9 i hi
      exact ⟨fun e => e.elim q1 q2, q3, q4⟩
theorem side_open_bad {L : LS} (h : Side w d lv x O L s) (hst : s.steps < 4611686018427387904) (hx : x.length ≤ maxLen) {c : Int} {l : List Nm} (hr : lopenD x s = (c, l, s')) (hc : c ≠ 0) :
    Calls Try.prog 13 #[Pt d, St x] w (SideActs w d x O (.tuple #[.pointer none, .slice none 0 0, .int .i64 c]) (.pointer none) none s') := by
  obtain ⟨Od, h1, h2, h3, h4⟩ := h
  have := open_any h2 hst hx
  rw [hr] at this
  refine this.mono (fun en w' k => ?_)
  rcases k with ⟨_, k1, k2, k3⟩ | ⟨k0, _⟩
  · refine ⟨k1, k2.mono (fun i _ e => h1 i e), Gr O w w', fun i hi => ?_, Gr Od w w', fun i hi => ?_, k3, rfl, gr_lt h4 k2.size⟩
    · rcases hi with hi | hi
      · exact Or.inl hi
      · exact Or.inr hi.1
    · rcases hi with hi | hi
      · exact Or.inl (h1 i hi)
      · exact Or.inr hi
  · exact absurd k0 hc
/-- a log's value, beside what is its disk's own -/
def RLogV (w : World) (d : Nat) (lv : Value) (x : Nm) (Od O : Nat → Prop) : LS → Prop
  | none => lv = .pointer none
  | some (n, b) => ∃ g, lv = Pt g ∧ RLogAt w g d x n b ∧ ¬ Od g ∧ O g
/-- memory holds the disk and its log; all that is their own lies in O -/
def RSide (w : World) (d : Nat) (lv : Value) (x : Nm) (O : Nat → Prop) (L : LS) (s : Dk) : Prop := ∃ Od : Nat → Prop, (∀ i, Od i → O i) ∧ IsRef w d Od s ∧ RLogV w d lv x Od O L ∧ ∀ i, O i → i < w.heap.size
def RSideActs (w : World) (d : Nat) (x : Nm) (O : Nat → Prop) (y lv : Value) (L : LS) (s : Dk) (en : Ending) (w' : World) : Prop :=
  en = .returned y ∧ Fr O w w' ∧ ∃ O' : Nat → Prop, (∀ i, O' i → O i ∨ w.heap.size ≤ i) ∧ RSide w' d lv x O' L s
theorem RSide.fr {L : LS} (h : RSide w d lv x O L s) {S : Nat → Prop} (F : Fr S w w') (hS : ∀ i, O i → ¬ S i) : RSide w' d lv x O L s := by
  obtain ⟨Od, h1, h2, h3, h4⟩ := h
  refine ⟨Od, h1, h2.fr F (fun i hi => hS i (h1 i hi)), ?_, fun i hi => Nat.lt_of_lt_of_le (h4 i hi) F.size⟩
  match L, h3 with
  | none, h3 => exact h3
  | some (n, b), ⟨g, k1, k2, k3, k4⟩ => exact ⟨g, k1, k2.fr F (hS g k4), k3, k4⟩
theorem RSide.no {L : LS} (h : RSide w d lv x O L s) (F : Fr No w w') : RSide w' d lv x O L s := h.fr F (fun _ _ e => e)
theorem RSide.acts {L : LS} (h : RSide w d lv x O L s) : ∃ Od, IsRef w d Od s ∧ ∀ y s' en w', ActsR w d Od y s' en w' → RSideActs w d x O y lv L s' en w' := by
  obtain ⟨Od, h1, h2, h3, h4⟩ := h
  refine ⟨Od, h2, fun y s' en w' k => ?_⟩
  obtain ⟨k1, k2, k3⟩ := k
  refine ⟨k1, k2.mono (fun i _ e => h1 i e), Gr O w w', fun i hi => ?_, Gr Od w w', fun i hi => ?_, k3, ?_, gr_lt h4 k2.size⟩
  · rcases hi with hi | hi
    · exact Or.inl hi
    · exact Or.inr hi.1
  · rcases hi with hi | hi
    · exact Or.inl (h1 i hi)
    · exact Or.inr hi
  · match L, h3 with
    | none, h3 => exact h3
    | some (n, b), ⟨g, q1, q2, q3, q4⟩ => exact ⟨g, q1, q2.fr k2 q3, rgr_not q2 q3, Or.inl q4⟩
theorem rside_of {L : LS} {y : Value} {en : Ending} (h : RSide w d lv x O L s) (F : Fr No w w') (he : en = .returned y) : RSideActs w d x O y lv L s en w' := ⟨he, F.no, O, fun _ e => Or.inl e, h.no F⟩
theorem rside_lapp {L : LS} (h : RSide w d lv x O L s) (hst : s.steps < 4611686018427387904) (hx : x.length ≤ maxLen) (hn : wSizeD L ≤ 4611686018427387904) (hpl : p.length ≤ maxLen) :
    Calls Try.prog 18 #[lv, St p] w (RSideActs w d x O (.int .i64 (wAppD x p L s).1) lv (wAppD x p L s).2.1 (wAppD x p L s).2.2) := by
  have H := h
  obtain ⟨Od, h1, h2, h3, h4⟩ := h
  match L, h3 with
  | none, h3 =>
    obtain rfl := h3
    exact (rlappend_nil _ w).mono (fun _ _ k => rside_of H (k.2 ▸ Fr.refl _ _) k.1)
  | some (n, b), ⟨g, q1, q2, q3, q4⟩ =>
    subst q1
    refine (rlappend_any h2 q2 q3 hst hx hn hpl).mono (fun en w' k => ?_)
    obtain ⟨k1, k2, k3, k4⟩ := k
    refine ⟨k1, k2.mono (fun i _ e => e.elim (h1 i) (fun e => e ▸ q4)), Gr O w w', fun i hi => ?_, Gr Od w w', fun i hi => ?_, k3, ⟨g, rfl, k4, rgr_not q2 q3, Or.inl q4⟩, gr_lt h4 k2.size⟩
    · rcases hi with hi | hi
      · exact Or.inl hi
      · exact Or.inr hi.1
    · rcases hi with hi | hi
      · exact Or.inl (h1 i hi)
      · exact Or.inr hi
theorem rside_lsync {L : LS} (h : RSide w d lv x O L s) (hst : s.steps < 4611686018427387904) (hx : x.length ≤ maxLen) :
    Calls Try.prog 20 #[lv] w (RSideActs w d x O (.int .i64 (wSyncD x L s).1) lv (wSyncD x L s).2.1 (wSyncD x L s).2.2) := by
  have H := h
  obtain ⟨Od, h1, h2, h3, h4⟩ := h
  match L, h3 with
  | none, h3 =>
    obtain rfl := h3
    exact (rlsync_nil w).mono (fun _ _ k => rside_of H (k.2 ▸ Fr.refl _ _) k.1)
  | some (n, b), ⟨g, q1, q2, q3, q4⟩ =>
    subst q1
    refine (rlsync_any h2 q2 q3 hst hx).mono (fun en w' k => ?_)
    obtain ⟨k1, k2, k3, k4⟩ := k
    refine ⟨k1, k2.mono (fun i _ e => e.elim (h1 i) (fun e => e ▸ q4)), Gr O w w', fun i hi => ?_, Gr Od w w', fun i hi => ?_, k3, ⟨g, rfl, k4, rgr_not q2 q3, Or.inl q4⟩, gr_lt h4 k2.size⟩
    · rcases hi with hi | hi
      · exact Or.inl hi
      · exact Or.inr hi.1
    · rcases hi with hi | hi
      · exact Or.inl (h1 i hi)
      · exact Or.inr hi
theorem rside_size {L : LS} (h : RSide w d lv x O L s) : Calls Try.prog 30 #[lv] w (Same (.int .i64 (wSizeD L : Nat)) w) := by
  obtain ⟨Od, h1, h2, h3, h4⟩ := h
  match L, h3 with
  | none, h3 =>
    obtain rfl := h3
    exact rlsize_nil w
  | some (n, b), ⟨g, q1, q2, q3, q4⟩ =>
    subst q1
    exact rlsize q2
theorem rside_open_ok {L : LS} (h : RSide w d lv x O L s) (hst : s.steps < 4611686018427387904) (hx : x.length ≤ maxLen) {l : List Nm} (hr : lopenD x s = (0, l, s')) :
    Calls Try.prog 16 #[Pt d, St x] w (fun en w' => ∃ g u, en = .returned (.tuple #[Pt g, u, .int .i64 0]) ∧ Fr O w w' ∧ RowS w' u l ∧
      ∃ O' : Nat → Prop, (∀ i, O' i → O i ∨ w.heap.size ≤ i) ∧ RSide w' d (Pt g) x O' (some (sizeL l, false)) s' ∧ ∀ i, u.ownBlock = some i → ¬ O' i ∧ w.heap.size ≤ i ∧ i < w'.heap.size) := by
  obtain ⟨Od, h1, h2, h3, h4⟩ := h
  have := ropen_any h2 hst hx
  rw [hr] at this
  refine this.mono (fun en w' k => ?_)
  rcases k with ⟨k0, _⟩ | ⟨_, g, u, O', k1, k2, k3, k4, k5, k6, k7, k8, k9⟩
  · exact absurd rfl k0
  · refine ⟨g, u, k1, k2.mono (fun i _ e => h1 i e), k5.1, fun i => O' i ∨ i = g, fun i hi => ?_, ⟨O', fun _ e => Or.inl e, k6, ⟨g, rfl, k4, k8, Or.inr rfl⟩, fun i hi => ?_⟩, fun i hi => ?_⟩
    · rcases hi with hi | hi
      · exact (k7 i hi).imp (h1 i) id
      · exact Or.inr (hi ▸ k3)
    · rcases hi with hi | hi
      · exact k6.lt i hi
      · exact hi ▸ lt_of_block k4
    · obtain ⟨q1, q2, q3, q4⟩ := k9 i hi
      exact ⟨fun e => e.elim q1 q2, q3, q4⟩
theorem rside_open_bad {L : LS} (h : RSide w d lv x O L s) (hst : s.steps < 4611686018427387904) (hx : x.length ≤ maxLen) {c : Int} {l : List Nm} (hr : lopenD x s = (c, l, s')) (hc : c ≠ 0) :
    Calls Try.prog 16 #[Pt d, St x] w (RSideActs w d x O (.tuple #[.pointer none, .slice none 0 0, .int .i64 c]) (.pointer none) none s') := by
  obtain ⟨Od, h1, h2, h3, h4⟩ := h
  have := ropen_any h2 hst hx
  rw [hr] at this
  refine this.mono (fun en w' k => ?_)
  rcases k with ⟨_, k1, k2, k3⟩ | ⟨k0, _⟩
  · refine ⟨k1, k2.mono (fun i _ e => h1 i e), Gr O w w', fun i hi => ?_, Gr Od w w', fun i hi => ?_, k3, rfl, gr_lt h4 k2.size⟩
    · rcases hi with hi | hi
      · exact Or.inl hi
      · exact Or.inr hi.1
    · rcases hi with hi | hi
      · exact Or.inl (h1 i hi)
      · exact Or.inr hi
  · exact absurd k0 hc

/-- both, all of whose blocks are new since v; nothing else has changed since v; what is to be kept is neither's -/
def Duo (K : Nat → Prop) (v w : World) (d e : Nat) (lv mv : Value) (x : Nm) (L : LS) (s : Dk) (M : LS) (t : Dk) : Prop :=
  ∃ O Q : Nat → Prop, (∀ i, O i → v.heap.size ≤ i) ∧ (∀ i, Q i → v.heap.size ≤ i) ∧ (∀ i, O i → ¬ Q i) ∧ Side w d lv x O L s ∧ RSide w e mv x Q M t ∧ Fr No v w ∧ ∀ i, K i → i < w.heap.size ∧ ¬ O i ∧ ¬ Q i
variable {L L' M M' : LS}
theorem Duo.fr (h : Duo K v w d e lv mv x L s M t) : Fr No v w := by
  obtain ⟨O, Q, h1, h2, h3, h4, h5, h6, h7⟩ := h
  exact h6
theorem Side.lt (h : Side w d lv x O L s) : ∀ i, O i → i < w.heap.size := by
  obtain ⟨Od, h1, h2, h3, h4⟩ := h
  exact h4
theorem RSide.lt (h : RSide w d lv x O L s) : ∀ i, O i → i < w.heap.size := by
  obtain ⟨Od, h1, h2, h3, h4⟩ := h
  exact h4
theorem Duo.no {K' : Nat → Prop} (h : Duo K v w d e lv mv x L s M t) (F : Fr No w w') (hK : ∀ i, K' i → K i ∨ (w.heap.size ≤ i ∧ i < w'.heap.size)) : Duo K' v w' d e lv mv x L s M t := by
  obtain ⟨O, Q, h1, h2, h3, h4, h5, h6, h7⟩ := h
  refine ⟨O, Q, h1, h2, h3, h4.no F, h5.no F, h6.andNo F, fun i hi => ?_⟩
  rcases hK i hi with k | k
  · exact ⟨Nat.lt_of_lt_of_le (h7 i k).1 F.size, (h7 i k).2⟩
  · exact ⟨k.2, fun e => by have := h4.lt i e; omega, fun e => by have := h5.lt i e; omega⟩
/-- a call's answer, and both behind it -/
def DA (K : Nat → Prop) (v w : World) (d e : Nat) (y lv mv : Value) (x : Nm) (L : LS) (s : Dk) (M : LS) (t : Dk) (en : Ending) (w' : World) : Prop := en = .returned y ∧ Duo K v w' d e lv mv x L s M t ∧ Fr (fun i => ¬ K i) w w'
theorem Duo.left (h : Duo K v w d e lv mv x L s M t) : ∃ O, Side w d lv x O L s ∧ ∀ y lv' L' s' en w', SideActs w d x O y lv' L' s' en w' → DA K v w d e y lv' mv x L' s' M t en w' := by
  obtain ⟨O, Q, h1, h2, h3, h4, h5, h6, h7⟩ := h
  refine ⟨O, h4, fun y lv' L' s' en w' k => ?_⟩
  obtain ⟨k1, k2, O', k3, k4⟩ := k
  refine ⟨k1, ⟨O', Q, fun i hi => ?_, h2, fun i hi hq => ?_, k4, h5.fr k2 (fun i hq ho => h3 i ho hq), h6.trans k2 (fun i hi ho => by have := h1 i ho; omega), fun i hi => ?_⟩, k2.mono (fun i _ ho hk => (h7 i hk).2.1 ho)⟩
  · rcases k3 i hi with q | q
    · exact h1 i q
    · exact Nat.le_trans h6.size q
  · rcases k3 i hi with q | q
    · exact h3 i q hq
    · have := h5.lt i hq; omega
  · refine ⟨Nat.lt_of_lt_of_le (h7 i hi).1 k2.size, fun e => ?_, (h7 i hi).2.2⟩
    rcases k3 i e with q | q
    · exact (h7 i hi).2.1 q
    · have := (h7 i hi).1; omega
theorem Duo.right (h : Duo K v w d e lv mv x L s M t) : ∃ Q, RSide w e mv x Q M t ∧ ∀ y mv' M' t' en w', RSideActs w e x Q y mv' M' t' en w' → DA K v w d e y lv mv' x L s M' t' en w' := by
  obtain ⟨O, Q, h1, h2, h3, h4, h5, h6, h7⟩ := h
  refine ⟨Q, h5, fun y mv' M' t' en w' k => ?_⟩
  obtain ⟨k1, k2, Q', k3, k4⟩ := k
  refine ⟨k1, ⟨O, Q', h1, fun i hi => ?_, fun i hi hq => ?_, h4.fr k2 (fun i ho hq => h3 i ho hq), k4, h6.trans k2 (fun i hi ho => by have := h2 i ho; omega), fun i hi => ?_⟩, k2.mono (fun i _ ho hk => (h7 i hk).2.2 ho)⟩
  · rcases k3 i hi with q | q
    · exact h2 i q
    · exact Nat.le_trans h6.size q
  · rcases k3 i hq with q | q
    · exact h3 i hi q
    · have := h4.lt i hi; omega
  · refine ⟨Nat.lt_of_lt_of_le (h7 i hi).1 k2.size, (h7 i hi).2.1, fun e => ?_⟩
    rcases k3 i e with q | q
    · exact (h7 i hi).2.2 q
    · have := (h7 i hi).1; omega
theorem du_lapp1 (h : Duo K v w d e lv mv x L s M t) (hst : s.steps < 4611686018427387904) (hx : x.length ≤ maxLen) (hn : wSizeD L ≤ 4611686018427387904) {c : Int} (hr : wAppD x p L s = (c, L', s')) :
    Calls Try.prog 17 #[lv, St p] w (DA K v w d e (.int .i64 c) lv mv x L' s' M t) := by
  obtain ⟨O, h1, h2⟩ := h.left
  have := side_lapp (p := p) h1 hst hx hn
  rw [hr] at this
  exact this.mono (fun _ _ k => h2 _ _ _ _ _ _ k)
theorem du_lapp2 (h : Duo K v w d e lv mv x L s M t) (hst : t.steps < 4611686018427387904) (hx : x.length ≤ maxLen) (hn : wSizeD M ≤ 4611686018427387904) (hp : p.length ≤ maxLen) {c : Int} (hr : wAppD x p M t = (c, M', t')) :
    Calls Try.prog 18 #[mv, St p] w (DA K v w d e (.int .i64 c) lv mv x L s M' t') := by
  obtain ⟨O, h1, h2⟩ := h.right
  have := rside_lapp (p := p) h1 hst hx hn hp
  rw [hr] at this
  exact this.mono (fun _ _ k => h2 _ _ _ _ _ _ k)
theorem du_lsync1 (h : Duo K v w d e lv mv x L s M t) (hst : s.steps < 4611686018427387904) (hx : x.length ≤ maxLen) {c : Int} (hr : wSyncD x L s = (c, L', s')) :
    Calls Try.prog 19 #[lv] w (DA K v w d e (.int .i64 c) lv mv x L' s' M t) := by
  obtain ⟨O, h1, h2⟩ := h.left
  have := side_lsync h1 hst hx
  rw [hr] at this
  exact this.mono (fun _ _ k => h2 _ _ _ _ _ _ k)
theorem du_lsync2 (h : Duo K v w d e lv mv x L s M t) (hst : t.steps < 4611686018427387904) (hx : x.length ≤ maxLen) {c : Int} (hr : wSyncD x M t = (c, M', t')) :
    Calls Try.prog 20 #[mv] w (DA K v w d e (.int .i64 c) lv mv x L s M' t') := by
  obtain ⟨O, h1, h2⟩ := h.right
  have := rside_lsync h1 hst hx
  rw [hr] at this
  exact this.mono (fun _ _ k => h2 _ _ _ _ _ _ k)
theorem du_size1 (h : Duo K v w d e lv mv x L s M t) {n : Nat} (hr : wSizeD L = n) : Calls Try.prog 29 #[lv] w (Same (.int .i64 (n : Int)) w) := by
  subst hr
  obtain ⟨O, h1, _⟩ := h.left
  exact side_size h1
theorem du_size2 (h : Duo K v w d e lv mv x L s M t) {n : Nat} (hr : wSizeD M = n) : Calls Try.prog 30 #[mv] w (Same (.int .i64 (n : Int)) w) := by
  subst hr
  obtain ⟨O, h1, _⟩ := h.right
  exact rside_size h1
theorem du_app1 (h : Duo K v w d e lv mv x L s M t) (hst : s.steps < 4611686018427387904) {y data : Nm} (hx : y.length ≤ maxLen) (hdl : data.length ≤ maxLen) {c : Int} (hr : appendD s y data = (c, s')) :
    Calls Try.prog 27 #[Pt d, St y, St data] w (DA K v w d e (.int .i64 c) lv mv x L s' M t) := by
  obtain ⟨O, h1, h2⟩ := h.left
  obtain ⟨Od, h3, h4⟩ := h1.acts
  have := append_any h3 hst hx hdl
  rw [hr] at this
  exact this.mono (fun _ _ k => h2 _ _ _ _ _ _ (h4 _ _ _ _ k))
theorem du_app2 (h : Duo K v w d e lv mv x L s M t) (hst : t.steps < 4611686018427387904) {y data : Nm} (hx : y.length ≤ maxLen) {c : Int} (hr : appendD t y data = (c, t')) :
    Calls Try.prog 28 #[Pt e, St y, St data] w (DA K v w d e (.int .i64 c) lv mv x L s M t') := by
  obtain ⟨O, h1, h2⟩ := h.right
  obtain ⟨Od, h3, h4⟩ := h1.acts
  have := rappend_any h3 (data := data) hst hx
  rw [hr] at this
  exact this.mono (fun _ _ k => h2 _ _ _ _ _ _ (h4 _ _ _ _ k))
theorem du_arm1 (h : Duo K v w d e lv mv x L s M t) {a keep : Int} (ha : I64 a) (hk : I64 keep) (hr : armD s a keep = s') : Calls Try.prog 21 #[Pt d, .int .i64 a, .int .i64 keep] w (DA K v w d e (.tuple #[]) lv mv x L s' M t) := by
  subst hr
  obtain ⟨O, h1, h2⟩ := h.left
  obtain ⟨Od, h3, h4⟩ := h1.acts
  exact (arm_any h3 ha hk).mono (fun _ _ k => h2 _ _ _ _ _ _ (h4 _ _ _ _ k))
theorem du_arm2 (h : Duo K v w d e lv mv x L s M t) {a keep : Int} (ha : I64 a) (hk : I64 keep) (hr : armD t a keep = t') : Calls Try.prog 22 #[Pt e, .int .i64 a, .int .i64 keep] w (DA K v w d e (.tuple #[]) lv mv x L s M t') := by
  subst hr
  obtain ⟨O, h1, h2⟩ := h.right
  obtain ⟨Od, ⟨u, h3⟩, h4⟩ := h1.acts
  exact (rarm_any h3 ha hk).mono (fun _ _ k => h2 _ _ _ _ _ _ (h4 _ _ _ _ k))
theorem du_off1 (h : Duo K v w d e lv mv x L s M t) {keep : Int} (hk : I64 keep) (hr : offC s keep = s') : Calls Try.prog 23 #[Pt d, .int .i64 keep] w (DA K v w d e (.tuple #[]) lv mv x L s' M t) := by
  subst hr
  obtain ⟨O, h1, h2⟩ := h.left
  obtain ⟨Od, h3, h4⟩ := h1.acts
  unfold offC
  cases hdn : s.down with
  | true => exact (off_down h3 hdn keep).mono (fun _ _ k => h2 _ _ _ _ _ _ (side_of h1 (k.2 ▸ Fr.refl _ _) k.1))
  | false => exact (off_any h3 hdn hk).mono (fun _ _ k => h2 _ _ _ _ _ _ (h4 _ _ _ _ k))
theorem du_off2 (h : Duo K v w d e lv mv x L s M t) {keep : Int} (hk : I64 keep) (hr : offC t keep = t') : Calls Try.prog 24 #[Pt e, .int .i64 keep] w (DA K v w d e (.tuple #[]) lv mv x L s M t') := by
  subst hr
  obtain ⟨O, h1, h2⟩ := h.right
  obtain ⟨Od, ⟨u, h3⟩, h4⟩ := h1.acts
  exact (roff_any h3 hk).mono (fun _ _ k => h2 _ _ _ _ _ _ (h4 _ _ _ _ k))
theorem du_on1 (h : Duo K v w d e lv mv x L s M t) (hr : onD s = s') : Calls Try.prog 25 #[Pt d] w (DA K v w d e (.tuple #[]) lv mv x L s' M t) := by
  subst hr
  obtain ⟨O, h1, h2⟩ := h.left
  obtain ⟨Od, h3, h4⟩ := h1.acts
  exact (on_any h3).mono (fun _ _ k => h2 _ _ _ _ _ _ (h4 _ _ _ _ k))
theorem du_on2 (h : Duo K v w d e lv mv x L s M t) (hr : onD t = t') : Calls Try.prog 26 #[Pt e] w (DA K v w d e (.tuple #[]) lv mv x L s M t') := by
  subst hr
  obtain ⟨O, h1, h2⟩ := h.right
  obtain ⟨Od, ⟨u, h3⟩, h4⟩ := h1.acts
  exact (ron_any h3).mono (fun _ _ k => h2 _ _ _ _ _ _ (h4 _ _ _ _ k))
theorem du_read1 (h : Duo K v w d e lv mv x L s M t) {y : Nm} (hy : y.length ≤ maxLen) {u : Nm} {c : Int} (hr : readD s y = (u, c)) : Calls Try.prog 35 #[Pt d, St y] w (DA K v w d e (.tuple #[St u, .int .i64 c]) lv mv x L s M t) := by
  obtain ⟨O, h1, h2⟩ := h.left
  obtain ⟨Od, h3, h4⟩ := h1.acts
  have := read_any h3 hy
  rw [hr] at this
  exact this.mono (fun _ _ k => h2 _ _ _ _ _ _ (side_of h1 k.2 k.1))
theorem du_read2 (h : Duo K v w d e lv mv x L s M t) {y : Nm} (hy : y.length ≤ maxLen) {u : Nm} {c : Int} (hr : readD t y = (u, c)) : Calls Try.prog 36 #[Pt e, St y] w (DA K v w d e (.tuple #[St u, .int .i64 c]) lv mv x L s M t) := by
  obtain ⟨O, h1, h2⟩ := h.right
  obtain ⟨Od, h3, h4⟩ := h1.acts
  have := ref_read h3 hy
  rw [hr] at this
  exact this.mono (fun _ _ k => h2 _ _ _ _ _ _ (rside_of h1 k.2 k.1))
theorem du_steps1 (h : Duo K v w d e lv mv x L s M t) {n : Nat} (hr : s.steps = n) : Calls Try.prog 31 #[Pt d] w (Same (.int .i64 (n : Int)) w) := by
  subst hr
  obtain ⟨O, h1, _⟩ := h.left
  obtain ⟨Od, h3, _⟩ := h1.acts
  exact steps_any h3
theorem du_steps2 (h : Duo K v w d e lv mv x L s M t) {n : Nat} (hr : t.steps = n) : Calls Try.prog 32 #[Pt e] w (Same (.int .i64 (n : Int)) w) := by
  subst hr
  obtain ⟨O, h1, _⟩ := h.right
  obtain ⟨Od, ⟨u, h3⟩, _⟩ := h1.acts
  exact rsteps_any h3
theorem du_down1 (h : Duo K v w d e lv mv x L s M t) {c : Bool} (hr : s.down = c) : Calls Try.prog 33 #[Pt d] w (Same (.bool c) w) := by
  subst hr
  obtain ⟨O, h1, _⟩ := h.left
  obtain ⟨Od, h3, _⟩ := h1.acts
  exact down_any h3
theorem du_down2 (h : Duo K v w d e lv mv x L s M t) {c : Bool} (hr : t.down = c) : Calls Try.prog 34 #[Pt e] w (Same (.bool c) w) := by
  subst hr
  obtain ⟨O, h1, _⟩ := h.right
  obtain ⟨Od, h3, _⟩ := h1.acts
  exact ref_down h3
/-- the program's Open, that gives a log; its records are kept from then on -/
theorem du_open1 (h : Duo K v w d e lv mv x L s M t) (hst : s.steps < 4611686018427387904) (hx : x.length ≤ maxLen) {l : List Nm} (hr : lopenD x s = (0, l, s')) :
    Calls Try.prog 13 #[Pt d, St x] w (fun en w' => ∃ g u, en = .returned (.tuple #[Pt g, u, .int .i64 0]) ∧ Duo (fun i => K i ∨ u.ownBlock = some i) v w' d e (Pt g) mv x (some (sizeL l, false)) s' M t ∧ RowS w' u l ∧ Fr (fun i => ¬ K i) w w') := by
  obtain ⟨O, Q, h1, h2, h3, h4, h5, h6, h7⟩ := h
  refine (side_open_ok h4 hst hx hr).mono (fun en w' k => ?_)
  obtain ⟨g, u, k1, k2, k3, O', k4, k5, k6⟩ := k
  refine ⟨g, u, k1, ⟨O', Q, fun i hi => ?_, h2, fun i hi hq => ?_, k5, h5.fr k2 (fun i hq ho => h3 i ho hq), h6.trans k2 (fun i hi ho => by have := h1 i ho; omega), fun i hi => ?_⟩, k3, k2.mono (fun i _ ho hk => (h7 i hk).2.1 ho)⟩
  · rcases k4 i hi with q | q
    · exact h1 i q
    · exact Nat.le_trans h6.size q
  · rcases k4 i hi with q | q
    · exact h3 i q hq
    · have := h5.lt i hq; omega
  · rcases hi with hi | hi
    · refine ⟨Nat.lt_of_lt_of_le (h7 i hi).1 k2.size, fun e => ?_, (h7 i hi).2.2⟩
      rcases k4 i e with q | q
      · exact (h7 i hi).2.1 q
      · have := (h7 i hi).1; omega
    · obtain ⟨q1, q2, q3⟩ := k6 i hi
      exact ⟨q3, q1, fun e => by have := h5.lt i e; omega⟩
theorem du_open2 (h : Duo K v w d e lv mv x L s M t) (hst : t.steps < 4611686018427387904) (hx : x.length ≤ maxLen) {l : List Nm} (hr : lopenD x t = (0, l, t')) :
    Calls Try.prog 16 #[Pt e, St x] w (fun en w' => ∃ g u, en = .returned (.tuple #[Pt g, u, .int .i64 0]) ∧ Duo (fun i => K i ∨ u.ownBlock = some i) v w' d e lv (Pt g) x L s (some (sizeL l, false)) t' ∧ RowS w' u l ∧ Fr (fun i => ¬ K i) w w') := by
  obtain ⟨O, Q, h1, h2, h3, h4, h5, h6, h7⟩ := h
  refine (rside_open_ok h5 hst hx hr).mono (fun en w' k => ?_)
  obtain ⟨g, u, k1, k2, k3, O', k4, k5, k6⟩ := k
  refine ⟨g, u, k1, ⟨O, O', h1, fun i hi => ?_, fun i hi hq => ?_, h4.fr k2 (fun i ho hq => h3 i ho hq), k5, h6.trans k2 (fun i hi ho => by have := h2 i ho; omega), fun i hi => ?_⟩, k3, k2.mono (fun i _ ho hk => (h7 i hk).2.2 ho)⟩
  · rcases k4 i hi with q | q
    · exact h2 i q
    · exact Nat.le_trans h6.size q
  · rcases k4 i hq with q | q
    · exact h3 i hi q
    · have := h4.lt i hi; omega
  · rcases hi with hi | hi
    · refine ⟨Nat.lt_of_lt_of_le (h7 i hi).1 k2.size, (h7 i hi).2.1, fun e => ?_⟩
      rcases k4 i e with q | q
      · exact (h7 i hi).2.2 q
      · have := (h7 i hi).1; omega
    · obtain ⟨q1, q2, q3⟩ := k6 i hi
      exact ⟨q3, fun e => by have := h4.lt i e; omega, q1⟩
theorem du_fail1 (h : Duo K v w d e lv mv x L s M t) (hst : s.steps < 4611686018427387904) (hx : x.length ≤ maxLen) {c : Int} {l : List Nm} (hr : lopenD x s = (c, l, s')) (hc : c ≠ 0) :
    Calls Try.prog 13 #[Pt d, St x] w (DA K v w d e (.tuple #[.pointer none, .slice none 0 0, .int .i64 c]) (.pointer none) mv x none s' M t) := by
  obtain ⟨O, h1, h2⟩ := h.left
  exact (side_open_bad h1 hst hx hr hc).mono (fun _ _ k => h2 _ _ _ _ _ _ k)
theorem du_fail2 (h : Duo K v w d e lv mv x L s M t) (hst : t.steps < 4611686018427387904) (hx : x.length ≤ maxLen) {c : Int} {l : List Nm} (hr : lopenD x t = (c, l, t')) (hc : c ≠ 0) :
    Calls Try.prog 16 #[Pt e, St x] w (DA K v w d e (.tuple #[.pointer none, .slice none 0 0, .int .i64 c]) lv (.pointer none) x L s none t') := by
  obtain ⟨O, h1, h2⟩ := h.right
  exact (rside_open_bad h1 hst hx hr hc).mono (fun _ _ k => h2 _ _ _ _ _ _ k)
/-- two new disks without logs -/
theorem du_start {O Q : Nat → Prop} (h : IsDsk w d O newD) (k : IsRef w e Q newD) (hO : ∀ i, O i → v.heap.size ≤ i) (hQ : ∀ i, Q i → v.heap.size ≤ i) (hd : ∀ i, O i → ¬ Q i) (F : Fr No v w) : Duo (fun _ => False) v w d e (.pointer none) (.pointer none) x none newD none newD :=
  ⟨O, Q, hO, hQ, hd, ⟨O, fun _ e => e, h, rfl, h.lt⟩, ⟨Q, fun _ e => e, k, rfl, k.lt⟩, F, fun _ e => e.elim⟩
end Go.Proofs.Ytnaedngbcndakaa
