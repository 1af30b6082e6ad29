/-
  The program's disk and the document's own, which do not meet, from call to call. Conditions: an int is one of 64 bits, a string is no longer than an int, fewer than 2^62 operations have been answered OK.
-/
import Derived.Test.YtplnfbhjplbpiaaFilRi
import Derived.Test.YtplnfbhjplbpiaaFilAr
namespace Go.Proofs.Ytplnfbhjplbpiaa
open Go.RowKit Go.Maps

variable {v w w' w1 w2 : World} {d e : Nat} {s s' t t' : Dk} {O1 Q1 O Q : Nat → Prop}
/-- both disks, all of whose blocks lie in O1 and Q1 or are new since v; nothing else has changed since v -/
def Duo (v : World) (O1 Q1 : Nat → Prop) (w : World) (d e : Nat) (s t : Dk) : Prop :=
  ∃ O Q : Nat → Prop, (∀ i, O i → O1 i ∨ v.heap.size ≤ i) ∧ (∀ i, Q i → Q1 i ∨ v.heap.size ≤ i) ∧ (∀ i, O i → ¬ Q i) ∧ IsDsk w d O s ∧ IsRef w e Q t ∧ Fr (fun i => O1 i ∨ Q1 i) v w
theorem Duo.no (h : Duo v O1 Q1 w d e s t) (F : Fr No w w') : Duo v O1 Q1 w' d e s t := by
  obtain ⟨O, Q, h1, h2, h3, h4, h5, h6⟩ := h
  exact ⟨O, Q, h1, h2, h3, h4.no F, h5.no F, h6.andNo F⟩
theorem Duo.fr (h : Duo v O1 Q1 w d e s t) : Fr (fun i => O1 i ∨ Q1 i) v w := by
  obtain ⟨O, Q, h1, h2, h3, h4, h5, h6⟩ := h
  exact h6
theorem Duo.ok1 (h : Duo v O1 Q1 w d e s t) : DkOk s := by
  obtain ⟨O, Q, h1, h2, h3, h4, h5, h6⟩ := h
  exact h4.ok
theorem Duo.ok2 (h : Duo v O1 Q1 w d e s t) : DkOk t := by
  obtain ⟨O, Q, h1, h2, h3, h4, h5, h6⟩ := h
  exact h5.ok
theorem Duo.left (h : Duo v O1 Q1 w d e s t) : ∃ O, IsDsk w d O s ∧ ∀ x s' en w', Acts w d O x s' en w' → en = .returned x ∧ Duo v O1 Q1 w' d e s' t := by
  obtain ⟨O, Q, h1, h2, h3, h4, h5, h6⟩ := h
  refine ⟨O, h4, fun x s' en w' k => ⟨k.1, Gr O w w', Q, fun i hi => ?_, h2, fun i hi hq => ?_, k.2.2, h5.fr k.2.1 (fun i hq ho => h3 i ho hq), h6.trans k.2.1 (fun i hi ho => ?_)⟩⟩
  · rcases hi with hi | hi
    · exact h1 i hi
    · exact Or.inr (Nat.le_trans h6.size hi.1)
  · rcases hi with hi | hi
    · exact h3 i hi hq
    · have := h5.lt i hq; omega
  · rcases h1 i ho with k1 | k1
    · exact Or.inl k1
    · omega
theorem Duo.right (h : Duo v O1 Q1 w d e s t) : ∃ Q, IsRef w e Q t ∧ ∀ x t' en w', ActsR w e Q x t' en w' → en = .returned x ∧ Duo v O1 Q1 w' d e s t' := by
  obtain ⟨O, Q, h1, h2, h3, h4, h5, h6⟩ := h
  refine ⟨Q, h5, fun x t' en w' k => ⟨k.1, O, Gr Q w w', h1, fun i hi => ?_, fun i hi hq => ?_, h4.fr k.2.1 (fun i hi hq => h3 i hi hq), k.2.2, h6.trans k.2.1 (fun i hi ho => ?_)⟩⟩
  · rcases hi with hi | hi
    · exact h2 i hi
    · exact Or.inr (Nat.le_trans h6.size hi.1)
  · rcases hq with hq | hq
    · exact h3 i hi hq
    · have := h4.lt i hi; omega
  · rcases h2 i ho with k1 | k1
    · exact Or.inr k1
    · omega
/-- from here on -/
theorem Duo.base (h : Duo v O1 Q1 w d e s t) : ∃ O Q, (∀ i, O i → i < w.heap.size) ∧ (∀ i, Q i → i < w.heap.size) ∧ (∀ w2, Fr No w w2 → Duo w2 O Q w2 d e s t) ∧ ∀ w2 w' s' t', Fr No w w2 → Duo w2 O Q w' d e s' t' → Duo v O1 Q1 w' d e s' t' := by
  obtain ⟨O, Q, h1, h2, h3, h4, h5, h6⟩ := h
  refine ⟨O, Q, h4.lt, h5.lt, fun w2 F => ⟨O, Q, fun i hi => Or.inl hi, fun i hi => Or.inl hi, h3, h4.no F, h5.no F, Fr.refl _ _⟩, fun w2 w' s' t' F k => ?_⟩
  obtain ⟨O2, Q2, k1, k2, k3, k4, k5, k6⟩ := k
  refine ⟨O2, Q2, fun i hi => ?_, fun i hi => ?_, k3, k4, k5, (h6.andNo F).trans k6 (fun i hi ho => ?_)⟩
  · rcases k1 i hi with k | k
    · exact h1 i k
    · exact Or.inr (Nat.le_trans (Nat.le_trans h6.size F.size) k)
  · rcases k2 i hi with k | k
    · exact h2 i k
    · exact Or.inr (Nat.le_trans (Nat.le_trans h6.size F.size) k)
  · rcases ho with k | k
    · rcases h1 i k with k | k
      · exact Or.inl k
      · omega
    · rcases h2 i k with k | k
      · exact Or.inr k
      · omega
/-- a call's answer, and both disks behind it -/
def DA (v : World) (O1 Q1 : Nat → Prop) (d e : Nat) (x : Value) (s t : Dk) (en : Ending) (w' : World) : Prop := en = .returned x ∧ Duo v O1 Q1 w' d e s t
theorem duo_append1 (h : Duo v O1 Q1 w d e s t) (hst : s.steps < 4611686018427387904) {x data : Nm} (hx : x.length ≤ maxLen) (hdl : data.length ≤ maxLen) {c : Int} (hr : appendD s x data = (c, s')) : Calls Try.prog 24 #[Pt d, St x, St data] w (DA v O1 Q1 d e (.int .i64 c) s' t) := by
  obtain ⟨O, h1, h2⟩ := h.left
  have := append_any h1 hst hx hdl
  rw [hr] at this
  exact this.mono (fun _ _ k => h2 _ _ _ _ k)
theorem duo_append2 (h : Duo v O1 Q1 w d e s t) (hst : t.steps < 4611686018427387904) {x data : Nm} (hx : x.length ≤ maxLen) {c : Int} (hr : appendD t x data = (c, t')) : Calls Try.prog 31 #[Pt e, St x, St data] w (DA v O1 Q1 d e (.int .i64 c) s t') := by
  obtain ⟨O, h1, h2⟩ := h.right
  have := rappend_any h1 (data := data) hst hx
  rw [hr] at this
  exact this.mono (fun _ _ k => h2 _ _ _ _ k)
theorem duo_sync1 (h : Duo v O1 Q1 w d e s t) (hst : s.steps < 4611686018427387904) {x : Nm} (hx : x.length ≤ maxLen) {c : Int} (hr : syncD s x = (c, s')) : Calls Try.prog 25 #[Pt d, St x] w (DA v O1 Q1 d e (.int .i64 c) s' t) := by
  obtain ⟨O, h1, h2⟩ := h.left
  have := sync_any h1 hst hx
  rw [hr] at this
  exact this.mono (fun _ _ k => h2 _ _ _ _ k)
theorem duo_sync2 (h : Duo v O1 Q1 w d e s t) (hst : t.steps < 4611686018427387904) {x : Nm} (hx : x.length ≤ maxLen) {c : Int} (hr : syncD t x = (c, t')) : Calls Try.prog 32 #[Pt e, St x] w (DA v O1 Q1 d e (.int .i64 c) s t') := by
  obtain ⟨O, h1, h2⟩ := h.right
  have := rsync_any h1 hst hx
  rw [hr] at this
  exact this.mono (fun _ _ k => h2 _ _ _ _ k)
theorem duo_cut1 (h : Duo v O1 Q1 w d e s t) (hst : s.steps < 4611686018427387904) {x : Nm} (hx : x.length ≤ maxLen) (a : Int) {c : Int} (hr : cutD s x a = (c, s')) : Calls Try.prog 33 #[Pt d, St x, .int .i64 a] w (DA v O1 Q1 d e (.int .i64 c) s' t) := by
  obtain ⟨O, h1, h2⟩ := h.left
  have := cut_any h1 hst hx a
  rw [hr] at this
  exact this.mono (fun _ _ k => h2 _ _ _ _ k)
theorem duo_cut2 (h : Duo v O1 Q1 w d e s t) (hst : t.steps < 4611686018427387904) {x : Nm} (hx : x.length ≤ maxLen) (a : Int) {c : Int} (hr : cutD t x a = (c, t')) : Calls Try.prog 34 #[Pt e, St x, .int .i64 a] w (DA v O1 Q1 d e (.int .i64 c) s t') := by
  obtain ⟨O, h1, h2⟩ := h.right
  have := rcut_any h1 hst hx a
  rw [hr] at this
  exact this.mono (fun _ _ k => h2 _ _ _ _ k)
theorem duo_rename1 (h : Duo v O1 Q1 w d e s t) (hst : s.steps < 4611686018427387904) {x y : Nm} (hx : x.length ≤ maxLen) (hy : y.length ≤ maxLen) {c : Int} (hr : renameD s x y = (c, s')) : Calls Try.prog 29 #[Pt d, St x, St y] w (DA v O1 Q1 d e (.int .i64 c) s' t) := by
  obtain ⟨O, h1, h2⟩ := h.left
  have := rename_any h1 hst hx hy
  rw [hr] at this
  exact this.mono (fun _ _ k => h2 _ _ _ _ k)
theorem duo_rename2 (h : Duo v O1 Q1 w d e s t) (hst : t.steps < 4611686018427387904) {x y : Nm} (hx : x.length ≤ maxLen) (hy : y.length ≤ maxLen) {c : Int} (hr : renameD t x y = (c, t')) : Calls Try.prog 35 #[Pt e, St x, St y] w (DA v O1 Q1 d e (.int .i64 c) s t') := by
  obtain ⟨O, h1, h2⟩ := h.right
  have := rrename_any h1 hst hx hy
  rw [hr] at this
  exact this.mono (fun _ _ k => h2 _ _ _ _ k)
theorem duo_delete1 (h : Duo v O1 Q1 w d e s t) (hst : s.steps < 4611686018427387904) {x : Nm} (hx : x.length ≤ maxLen) {c : Int} (hr : deleteD s x = (c, s')) : Calls Try.prog 30 #[Pt d, St x] w (DA v O1 Q1 d e (.int .i64 c) s' t) := by
  obtain ⟨O, h1, h2⟩ := h.left
  have := delete_any h1 hst hx
  rw [hr] at this
  exact this.mono (fun _ _ k => h2 _ _ _ _ k)
theorem duo_delete2 (h : Duo v O1 Q1 w d e s t) (hst : t.steps < 4611686018427387904) {x : Nm} (hx : x.length ≤ maxLen) {c : Int} (hr : deleteD t x = (c, t')) : Calls Try.prog 36 #[Pt e, St x] w (DA v O1 Q1 d e (.int .i64 c) s t') := by
  obtain ⟨O, h1, h2⟩ := h.right
  have := rdelete_any h1 hst hx
  rw [hr] at this
  exact this.mono (fun _ _ k => h2 _ _ _ _ k)
theorem duo_read1 (h : Duo v O1 Q1 w d e s t) {x : Nm} (hx : x.length ≤ maxLen) {u : Nm} {c : Int} (hr : readD s x = (u, c)) : Calls Try.prog 22 #[Pt d, St x] w (DA v O1 Q1 d e (.tuple #[St u, .int .i64 c]) s t) := by
  obtain ⟨O, h1, _⟩ := h.left
  have := read_any h1 hx
  rw [hr] at this
  exact this.mono (fun _ _ k => ⟨k.1, h.no k.2⟩)
theorem duo_read2 (h : Duo v O1 Q1 w d e s t) {x : Nm} (hx : x.length ≤ maxLen) {u : Nm} {c : Int} (hr : readD t x = (u, c)) : Calls Try.prog 23 #[Pt e, St x] w (DA v O1 Q1 d e (.tuple #[St u, .int .i64 c]) s t) := by
  obtain ⟨O, ⟨vv, h1⟩, _⟩ := h.right
  have := rread_any h1 hx
  rw [hr] at this
  exact this.mono (fun _ _ k => ⟨k.1, k.2 ▸ h⟩)
theorem duo_arm1 (h : Duo v O1 Q1 w d e s t) {n keep : Int} (hn : I64 n) (hk : I64 keep) : Calls Try.prog 27 #[Pt d, .int .i64 n, .int .i64 keep] w (DA v O1 Q1 d e (.tuple #[]) (armD s n keep) t) := by
  obtain ⟨O, h1, h2⟩ := h.left
  exact (arm_any h1 hn hk).mono (fun _ _ k => h2 _ _ _ _ k)
theorem duo_arm2 (h : Duo v O1 Q1 w d e s t) {n keep : Int} (hn : I64 n) (hk : I64 keep) : Calls Try.prog 37 #[Pt e, .int .i64 n, .int .i64 keep] w (DA v O1 Q1 d e (.tuple #[]) s (armD t n keep)) := by
  obtain ⟨O, ⟨vv, h1⟩, h2⟩ := h.right
  exact (rarm_any h1 hn hk).mono (fun _ _ k => h2 _ _ _ _ k)
theorem duo_off1 (h : Duo v O1 Q1 w d e s t) {keep : Int} (hk : I64 keep) : Calls Try.prog 26 #[Pt d, .int .i64 keep] w (DA v O1 Q1 d e (.tuple #[]) (offC s keep) t) := by
  obtain ⟨O, h1, h2⟩ := h.left
  cases hdn : s.down with
  | true =>
    have E : offC s keep = s := by unfold offC; rw [hdn]; rfl
    rw [E]
    exact (off_down h1 hdn keep).mono (fun _ _ k => ⟨k.1, k.2 ▸ h⟩)
  | false =>
    have E : offC s keep = offD s keep := by unfold offC; rw [hdn]; rfl
    rw [E]
    exact (off_any h1 hdn hk).mono (fun _ _ k => h2 _ _ _ _ k)
theorem duo_off2 (h : Duo v O1 Q1 w d e s t) {keep : Int} (hk : I64 keep) : Calls Try.prog 38 #[Pt e, .int .i64 keep] w (DA v O1 Q1 d e (.tuple #[]) s (offC t keep)) := by
  obtain ⟨O, ⟨vv, h1⟩, h2⟩ := h.right
  exact (roff_any h1 hk).mono (fun _ _ k => h2 _ _ _ _ k)
theorem duo_on1 (h : Duo v O1 Q1 w d e s t) : Calls Try.prog 20 #[Pt d] w (DA v O1 Q1 d e (.tuple #[]) (onD s) t) := by
  obtain ⟨O, h1, h2⟩ := h.left
  exact (on_any h1).mono (fun _ _ k => h2 _ _ _ _ k)
theorem duo_on2 (h : Duo v O1 Q1 w d e s t) : Calls Try.prog 21 #[Pt e] w (DA v O1 Q1 d e (.tuple #[]) s (onD t)) := by
  obtain ⟨O, ⟨vv, h1⟩, h2⟩ := h.right
  exact (ron_any h1).mono (fun _ _ k => h2 _ _ _ _ k)
theorem duo_steps1 (h : Duo v O1 Q1 w d e s t) : Calls Try.prog 13 #[Pt d] w (DA v O1 Q1 d e (.int .i64 (s.steps : Nat)) s t) := by
  obtain ⟨O, h1, _⟩ := h.left
  exact (steps_any h1).mono (fun _ _ k => ⟨k.1, k.2 ▸ h⟩)
theorem duo_steps2 (h : Duo v O1 Q1 w d e s t) : Calls Try.prog 14 #[Pt e] w (DA v O1 Q1 d e (.int .i64 (t.steps : Nat)) s t) := by
  obtain ⟨O, ⟨vv, h1⟩, _⟩ := h.right
  exact (rsteps_any h1).mono (fun _ _ k => ⟨k.1, k.2 ▸ h⟩)
theorem duo_down1 (h : Duo v O1 Q1 w d e s t) : Calls Try.prog 11 #[Pt d] w (DA v O1 Q1 d e (.bool s.down) s t) := by
  obtain ⟨O, h1, _⟩ := h.left
  exact (down_any h1).mono (fun _ _ k => ⟨k.1, k.2 ▸ h⟩)
theorem duo_down2 (h : Duo v O1 Q1 w d e s t) : Calls Try.prog 12 #[Pt e] w (DA v O1 Q1 d e (.bool t.down) s t) := by
  obtain ⟨O, ⟨vv, h1⟩, _⟩ := h.right
  exact (rdown_any h1).mono (fun _ _ k => ⟨k.1, k.2 ▸ h⟩)
theorem duo_safe1 (h : Duo v O1 Q1 w d e s t) {x : Nm} (hx : x.length ≤ maxLen) : Calls Try.prog 15 #[Pt d, St x] w (DA v O1 Q1 d e (.int .i64 (safeD s x : Nat)) s t) := by
  obtain ⟨O, h1, _⟩ := h.left
  exact (safe_any h1 hx).mono (fun _ _ k => ⟨k.1, k.2 ▸ h⟩)
theorem duo_safe2 (h : Duo v O1 Q1 w d e s t) (x : Nm) : Calls Try.prog 16 #[Pt e, St x] w (DA v O1 Q1 d e (.int .i64 (safeD t x : Nat)) s t) := by
  obtain ⟨O, ⟨vv, h1⟩, _⟩ := h.right
  exact (rsafe_any h1 x).mono (fun _ _ k => ⟨k.1, h.no k.2⟩)
/-- names that a disk has told: they stay while nothing else is written -/
def DN (v : World) (O1 Q1 : Nat → Prop) (w : World) (d e : Nat) (l : List Nm) (s t : Dk) (en : Ending) (w' : World) : Prop := ∃ x, en = .returned x ∧ Fr No w w' ∧ Duo v O1 Q1 w' d e s t ∧ RowS w' x l
theorem duo_names1 (h : Duo v O1 Q1 w d e s t) : Calls Try.prog 18 #[Pt d] w (DN v O1 Q1 w d e (names s.fs) s t) := by
  obtain ⟨O, h1, _⟩ := h.left
  exact (dnames_any h1).mono (fun _ _ ⟨x, k1, k2, k3⟩ => ⟨x, k1, k2, h.no k2, k3⟩)
theorem duo_names2 (h : Duo v O1 Q1 w d e s t) : Calls Try.prog 19 #[Pt e] w (DN v O1 Q1 w d e (names t.fs) s t) := by
  obtain ⟨O, ⟨vv, h1⟩, _⟩ := h.right
  exact (rnames_any h1).mono (fun _ _ ⟨x, k1, k2, k3⟩ => ⟨x, k1, k2, h.no k2, k3⟩)
/-- two new disks -/
theorem duo_start (H : Ses w w1 d newD) (k2 : Fr No w1 w2) (k3 : IsRef w2 w1.heap.size (fun k => w1.heap.size ≤ k ∧ k < w2.heap.size) newD) : Duo w No No w2 d w1.heap.size newD newD := by
  obtain ⟨O, h1, h2, h3⟩ := H
  exact ⟨O, _, fun i hi => Or.inr (h2 i hi), fun i hi => Or.inr (Nat.le_trans h1.size hi.1), fun i hi hq => by have := h3.lt i hi; omega, h3.no k2, k3, (h1.andNo k2).no⟩
end Go.Proofs.Ytplnfbhjplbpiaa
