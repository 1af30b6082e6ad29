/-
  Two disks that do not meet, from call to call; one operation of a script. Conditions: an int is one of 64 bits, a string is no longer than an int, fewer than 2^62 operations have been answered OK.
-/
import Derived.Test.YtplnfbhjplbpiaaFilO
import Derived.Test.YtplnfbhjplbpiaaFilRw
namespace Go.Proofs.Ytplnfbhjplbpiaa
open Go.RowKit Go.Maps

variable {v w w' w1 w2 : World} {d e : Nat} {s s' t t' : Dk} {O1 Q1 O Q : Nat → Prop}
/-- two disks, all of whose blocks lie in O1 and Q1 or are new since v; nothing else has changed since v -/
def Two (v : World) (O1 Q1 : Nat → Prop) (w : World) (d e : Nat) (s t : Dk) : Prop :=
  ∃ O Q : Nat → Prop, (∀ i, O i → O1 i ∨ v.heap.size ≤ i) ∧ (∀ i, Q i → Q1 i ∨ v.heap.size ≤ i) ∧ (∀ i, O i → ¬ Q i) ∧ IsDsk w d O s ∧ IsDsk w e Q t ∧ Fr (fun i => O1 i ∨ Q1 i) v w
theorem Two.no (h : Two v O1 Q1 w d e s t) (F : Fr No w w') : Two v O1 Q1 w' d e s t := by
  obtain ⟨O, Q, h1, h2, h3, h4, h5, h6⟩ := h
  exact ⟨O, Q, h1, h2, h3, h4.no F, h5.no F, h6.andNo F⟩
theorem Two.fr (h : Two v O1 Q1 w d e s t) : Fr (fun i => O1 i ∨ Q1 i) v w := by
  obtain ⟨O, Q, h1, h2, h3, h4, h5, h6⟩ := h
  exact h6
theorem Two.ok1 (h : Two v O1 Q1 w d e s t) : DkOk s := by
  obtain ⟨O, Q, h1, h2, h3, h4, h5, h6⟩ := h
  exact h4.ok
theorem Two.ok2 (h : Two v O1 Q1 w d e s t) : DkOk t := by
  obtain ⟨O, Q, h1, h2, h3, h4, h5, h6⟩ := h
  exact h5.ok
theorem Two.swap (h : Two v O1 Q1 w d e s t) : Two v Q1 O1 w e d t s := by
  obtain ⟨O, Q, h1, h2, h3, h4, h5, h6⟩ := h
  exact ⟨Q, O, h2, h1, fun i hq ho => h3 i ho hq, h5, h4, h6.mono (fun i _ k => k.symm)⟩
theorem Two.left (h : Two v O1 Q1 w d e s t) : ∃ O, IsDsk w d O s ∧ ∀ x s' en w', Acts w d O x s' en w' → en = .returned x ∧ Two v O1 Q1 w' d e s' t := by
  obtain ⟨O, Q, h1, h2, h3, h4, h5, h6⟩ := h
  refine ⟨O, h4, fun x s' en w' k => ⟨k.1, Gr O w w', Q, fun i hi => ?_, h2, fun i hi hq => ?_, k.2.2, h5.fr k.2.1 (fun i hq ho => h3 i ho hq), h6.trans k.2.1 (fun i hi ho => ?_)⟩⟩
  · rcases hi with hi | hi
    · exact h1 i hi
    · exact Or.inr (Nat.le_trans h6.size hi.1)
  · rcases hi with hi | hi
    · exact h3 i hi hq
    · have := h5.lt i hq; omega
  · rcases h1 i ho with k1 | k1
    · exact Or.inl k1
    · omega
theorem Two.right (h : Two v O1 Q1 w d e s t) : ∃ Q, IsDsk w e Q t ∧ ∀ x t' en w', Acts w e Q x t' en w' → en = .returned x ∧ Two v O1 Q1 w' d e s t' := by
  obtain ⟨Q, h1, h2⟩ := h.swap.left
  exact ⟨Q, h1, fun x t' en w' k => ⟨(h2 x t' en w' k).1, (h2 x t' en w' k).2.swap⟩⟩
/-- from here on -/
theorem Two.base (h : Two v O1 Q1 w d e s t) : ∃ O Q, (∀ i, O i → i < w.heap.size) ∧ (∀ i, Q i → i < w.heap.size) ∧ (∀ w2, Fr No w w2 → Two w2 O Q w2 d e s t) ∧ ∀ w2 w' s' t', Fr No w w2 → Two w2 O Q w' d e s' t' → Two v O1 Q1 w' d e s' t' := by
  obtain ⟨O, Q, h1, h2, h3, h4, h5, h6⟩ := h
  refine ⟨O, Q, h4.lt, h5.lt, fun w2 F => ⟨O, Q, fun i hi => Or.inl hi, fun i hi => Or.inl hi, h3, h4.no F, h5.no F, Fr.refl _ _⟩, fun w2 w' s' t' F k => ?_⟩
  obtain ⟨O2, Q2, k1, k2, k3, k4, k5, k6⟩ := k
  refine ⟨O2, Q2, fun i hi => ?_, fun i hi => ?_, k3, k4, k5, (h6.andNo F).trans k6 (fun i hi ho => ?_)⟩
  · rcases k1 i hi with k | k
    · exact h1 i k
    · exact Or.inr (Nat.le_trans (Nat.le_trans h6.size F.size) k)
  · rcases k2 i hi with k | k
    · exact h2 i k
    · exact Or.inr (Nat.le_trans (Nat.le_trans h6.size F.size) k)
  · rcases ho with k | k
    · rcases h1 i k with k | k
      · exact Or.inl k
      · omega
    · rcases h2 i k with k | k
      · exact Or.inr k
      · omega
/-- a call's answer, and both disks behind it -/
def TA (v : World) (O1 Q1 : Nat → Prop) (d e : Nat) (x : Value) (s t : Dk) (en : Ending) (w' : World) : Prop := en = .returned x ∧ Two v O1 Q1 w' d e s t
/-- names that a disk has told: in new memory -/
def TN (v : World) (O1 Q1 : Nat → Prop) (d e : Nat) (l : List Nm) (s t : Dk) (w : World) (en : Ending) (w' : World) : Prop :=
  ∃ x, en = .returned x ∧ Fr No w w' ∧ Two v O1 Q1 w' d e s t ∧ w'.ownsRow w.heap.size 9 1 x l.length (l.map St)
set_option maxHeartbeats 1000000 in
theorem dnames_own {w : World} {d : Nat} {O : Nat → Prop} {s : Dk} (h : IsDsk w d O s) : Calls Try.prog 18 #[Pt d] w (fun e w' => ∃ x, e = .returned x ∧ Fr No w w' ∧ w'.ownsRow w.heap.size 9 1 x (names s.fs).length ((names s.fs).map St)) := by
  refine (callsIn_wide (n := 6)).1 ?_
  obtain ⟨m, D, fb, sv, h⟩ := h
  obtain ⟨l, _, _, c0, _⟩ := h.cells
  have HP := hide h.perm
  have HS := hide (names_sorted h.ok.srt)
  have SO := hide (sorted_at w h.map (by rw [h.size]; have := h.ok.len; omega))
  clear h
  have hfK : Fence.wide.fn 41 := trivial
  have hfS : Fence.wide.fn 40 := trivial
  refine callsIn_of_wp Try.func18 rfl trivial ?_ rfl
  simp only [Try.ntmps18, List.size_toArray, List.length_cons, List.length_nil, Nat.reduceAdd, Nat.reduceSub, Array.replicate_succ, Array.replicate_zero, List.push_toArray, List.append_toArray, List.nil_append, List.cons_append]
  gi_wp2_with (first
    | (gi_at_call 41; refine (keys_at _ _).mono ?_; rintro e w' ⟨rfl, rfl⟩)
    | (gi_at_call 40; refine SO.out.mono ?_; rintro e w' ⟨v, ss, rfl, hS, hrow, hnil, hb⟩))
  go_ret
  have e1 : (ss.mergeSort (fun x y => decide (x ≤ y))) = names s.fs := (mergeSort_of_perm (hS.trans HP.out.symm)).trans HS.out
  have e2 : ss.length = (names s.fs).length := by rw [← e1]; exact (List.length_mergeSort ss).symm
  rw [e1, e2] at hrow
  refine ⟨v, rfl, (Fr.alloc _ _).andNo (Fr.ofBelow hb), ?_⟩
  obtain ⟨r1, r2⟩ := hrow
  refine ⟨r1, ?_⟩
  rcases r2 with r2 | ⟨g, cap, cur, r3, r4, r5⟩
  · exact Or.inl r2
  · exact Or.inr ⟨g, cap, cur, r3, by simp at r4; omega, r5⟩
theorem two_names1 (h : Two v O1 Q1 w d e s t) : Calls Try.prog 18 #[Pt d] w (TN v O1 Q1 d e (names s.fs) s t w) := by
  obtain ⟨O, h1, _⟩ := h.left
  exact (dnames_own h1).mono (fun _ _ ⟨x, k1, k2, k3⟩ => ⟨x, k1, k2, h.no k2, k3⟩)
theorem two_names2 (h : Two v O1 Q1 w d e s t) : Calls Try.prog 18 #[Pt e] w (TN v O1 Q1 d e (names t.fs) s t w) := by
  obtain ⟨O, h1, _⟩ := h.right
  exact (dnames_own h1).mono (fun _ _ ⟨x, k1, k2, k3⟩ => ⟨x, k1, k2, h.no k2, k3⟩)
theorem two_read1 (h : Two v O1 Q1 w d e s t) {x : Nm} (hx : x.length ≤ maxLen) {u : Nm} {c : Int} (hr : readD s x = (u, c)) : Calls Try.prog 22 #[Pt d, St x] w (TA v O1 Q1 d e (.tuple #[St u, .int .i64 c]) s t) := by
  obtain ⟨O, h1, _⟩ := h.left
  have := read_any h1 hx
  rw [hr] at this
  exact this.mono (fun _ _ k => ⟨k.1, h.no k.2⟩)
theorem two_read2 (h : Two v O1 Q1 w d e s t) {x : Nm} (hx : x.length ≤ maxLen) {u : Nm} {c : Int} (hr : readD t x = (u, c)) : Calls Try.prog 22 #[Pt e, St x] w (TA v O1 Q1 d e (.tuple #[St u, .int .i64 c]) s t) := by
  obtain ⟨O, h1, _⟩ := h.right
  have := read_any h1 hx
  rw [hr] at this
  exact this.mono (fun _ _ k => ⟨k.1, h.no k.2⟩)
theorem two_steps1 (h : Two v O1 Q1 w d e s t) {n : Nat} (hr : s.steps = n) : Calls Try.prog 13 #[Pt d] w (TA v O1 Q1 d e (.int .i64 (n : Int)) s t) := by
  subst hr
  obtain ⟨O, h1, _⟩ := h.left
  exact (steps_any h1).mono (fun _ _ k => ⟨k.1, k.2 ▸ h⟩)
theorem two_steps2 (h : Two v O1 Q1 w d e s t) {n : Nat} (hr : t.steps = n) : Calls Try.prog 13 #[Pt e] w (TA v O1 Q1 d e (.int .i64 (n : Int)) s t) := by
  subst hr
  obtain ⟨O, h1, _⟩ := h.right
  exact (steps_any h1).mono (fun _ _ k => ⟨k.1, k.2 ▸ h⟩)
theorem two_down1 (h : Two v O1 Q1 w d e s t) {b : Bool} (hr : s.down = b) : Calls Try.prog 11 #[Pt d] w (TA v O1 Q1 d e (.bool b) s t) := by
  subst hr
  obtain ⟨O, h1, _⟩ := h.left
  exact (down_any h1).mono (fun _ _ k => ⟨k.1, k.2 ▸ h⟩)
theorem two_on1 (h : Two v O1 Q1 w d e s t) (hr : onD s = s') : Calls Try.prog 20 #[Pt d] w (TA v O1 Q1 d e (.tuple #[]) s' t) := by
  subst hr
  obtain ⟨O, h1, h2⟩ := h.left
  exact (on_any h1).mono (fun _ _ k => h2 _ _ _ _ k)
theorem two_arm1 (h : Two v O1 Q1 w d e s t) {n keep : Int} (hn : I64 n) (hk : I64 keep) (hr : armD s n keep = s') : Calls Try.prog 27 #[Pt d, .int .i64 n, .int .i64 keep] w (TA v O1 Q1 d e (.tuple #[]) s' t) := by
  subst hr
  obtain ⟨O, h1, h2⟩ := h.left
  exact (arm_any h1 hn hk).mono (fun _ _ k => h2 _ _ _ _ k)
/-- two new disks -/
theorem two_start (H : Ses w w1 d newD) (h : Born w1 (.returned (Pt e)) w2) : Two w No No w2 d e newD newD := by
  obtain ⟨O, h1, h2, h3⟩ := H
  obtain ⟨e', k1, k2, k3, k4⟩ := h
  obtain rfl : e = e' := by simpa using k1
  exact ⟨O, _, fun i hi => Or.inr (h2 i hi), fun i hi => Or.inr (Nat.le_trans h1.size hi.1), fun i hi hq => by have := h3.lt i hi; omega, h3.no k2, k4, (h1.andNo k2).no⟩

/-! ### one operation -/
def actD (s : Dk) (o : Op6) : Int × Dk :=
  if o.kind = 1 then appendD s o.name o.data else if o.kind = 2 then syncD s o.name else if o.kind = 3 then cutD s o.name o.n else if o.kind = 4 then renameD s o.name o.data else deleteD s o.name
abbrev opV (o : Op6) : Value := .agg #[.int .i64 o.kind, .int .i64 o.on, St o.name, St o.data, .int .i64 o.n, .int .i64 o.keep]
theorem acts_up {x : Value} {en : Ending} (hlt : ∀ i, O i → i < w.heap.size) (F : Fr No w w1) (k : Acts w1 d O x s' en w2) : Acts w d O x s' en w2 :=
  ⟨k.1, F.no.trans k.2.1 (fun _ _ e => e), k.2.2.wider (gr_up F.size) (gr_lt hlt (Nat.le_trans F.size k.2.1.size))⟩
set_option maxRecDepth 100000 in
set_option maxHeartbeats 1000000 in
theorem act_any (h : IsDsk w d O s) (hst : s.steps < 4611686018427387904) {o : Op6} (ho : okO o) : Calls Try.prog 28 #[Pt d, opV o] w (Acts w d O (.int .i64 (actD s o).1) (actD s o).2) := by
  obtain ⟨kind, on, name, data, n, keep⟩ := o
  obtain ⟨o1, o2, o3, o4, o5, o6⟩ := ho
  simp only at o1 o2 o3 o4 o5 o6
  have HB := fun W (F : Fr No w W) => h.no F
  have HLT := hide h.lt
  by_cases h1 : kind = 1
  · subst h1
    have C := hide (fun W F => append_any (HB W F) hst o3 o4)
    have E : actD s ⟨1, on, name, data, n, keep⟩ = appendD s name data := by unfold actD; rw [if_pos rfl]
    rw [E]
    clear h HB o1 o2 o3 o4 o5 o6 E
    go_enter Try.func28, Try.ntmps28
    go_wp2_with (go_at_call 24; refine (C.out _ (Fr.alloc _ _)).mono ?_; intro en w2 K; obtain rfl := K.1)
    go_ret
    exact acts_up HLT.out (Fr.alloc _ _) K
  by_cases h2 : kind = 2
  · subst h2
    have C := hide (fun W F => sync_any (HB W F) hst o3)
    have E : actD s ⟨2, on, name, data, n, keep⟩ = syncD s name := by unfold actD; rw [if_neg h1, if_pos rfl]
    rw [E]
    clear h HB o1 o2 o3 o4 o5 o6 E
    go_enter Try.func28, Try.ntmps28
    go_wp2_with (go_at_call 25; refine (C.out _ (Fr.alloc _ _)).mono ?_; intro en w2 K; obtain rfl := K.1)
    go_ret
    exact acts_up HLT.out (Fr.alloc _ _) K
  by_cases h3 : kind = 3
  · subst h3
    have C := hide (fun W F => cut_any (HB W F) hst o3 n)
    have E : actD s ⟨3, on, name, data, n, keep⟩ = cutD s name n := by unfold actD; rw [if_neg h1, if_neg h2, if_pos rfl]
    rw [E]
    clear h HB o1 o2 o3 o4 o5 o6 E
    go_enter Try.func28, Try.ntmps28
    go_wp2_with (go_at_call 33; refine (C.out _ (Fr.alloc _ _)).mono ?_; intro en w2 K; obtain rfl := K.1)
    go_ret
    exact acts_up HLT.out (Fr.alloc _ _) K
  by_cases h4 : kind = 4
  · subst h4
    have C := hide (fun W F => rename_any (HB W F) hst o3 o4)
    have E : actD s ⟨4, on, name, data, n, keep⟩ = renameD s name data := by unfold actD; rw [if_neg h1, if_neg h2, if_neg h3, if_pos rfl]
    rw [E]
    clear h HB o1 o2 o3 o4 o5 o6 E
    go_enter Try.func28, Try.ntmps28
    go_wp2_with (go_at_call 29; refine (C.out _ (Fr.alloc _ _)).mono ?_; intro en w2 K; obtain rfl := K.1)
    go_ret
    exact acts_up HLT.out (Fr.alloc _ _) K
  · have C := hide (fun W F => delete_any (HB W F) hst o3)
    have E : actD s ⟨kind, on, name, data, n, keep⟩ = deleteD s name := by unfold actD; rw [if_neg h1, if_neg h2, if_neg h3, if_neg h4]
    rw [E]
    clear h HB o1 o2 o3 o4 o5 o6 E
    go_enter Try.func28, Try.ntmps28
    go_wp2_with (go_at_call 30; refine (C.out _ (Fr.alloc _ _)).mono ?_; intro en w2 K; obtain rfl := K.1)
    go_ret
    exact acts_up HLT.out (Fr.alloc _ _) K
theorem two_act1 (h : Two v O1 Q1 w d e s t) (hst : s.steps < 4611686018427387904) {o : Op6} (ho : okO o) {c : Int} (hr : actD s o = (c, s')) : Calls Try.prog 28 #[Pt d, opV o] w (TA v O1 Q1 d e (.int .i64 c) s' t) := by
  obtain ⟨O, h1, h2⟩ := h.left
  have := act_any h1 hst ho
  rw [hr] at this
  exact this.mono (fun _ _ k => h2 _ _ _ _ k)
theorem two_act2 (h : Two v O1 Q1 w d e s t) (hst : t.steps < 4611686018427387904) {o : Op6} (ho : okO o) {c : Int} (hr : actD t o = (c, t')) : Calls Try.prog 28 #[Pt e, opV o] w (TA v O1 Q1 d e (.int .i64 c) s t') := by
  obtain ⟨O, h1, h2⟩ := h.right
  have := act_any h1 hst ho
  rw [hr] at this
  exact this.mono (fun _ _ k => h2 _ _ _ _ k)
end Go.Proofs.Ytplnfbhjplbpiaa
