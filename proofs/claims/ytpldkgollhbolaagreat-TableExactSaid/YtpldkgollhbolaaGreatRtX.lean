/-
  The walk of the law TableExact: it returns true. Condition: fewer than 2^63 lists, of changes of their types; a lease of its type.
-/
import Derived.Test.YtpldkgollhbolaaGreatRtL
namespace Go.Proofs.YtpldkgollhbolaaGreat
open Go.RowKit Go.Joins Go.Maps

variable {w w' V W W' : World} {O : Nat → Prop} {t u c : Nat} {p : Option Go.Addr} {L : List Ls} {v : Value}
theorem told_any (h : IsTab w t O L) (r : RTab w u p c L) (x : Ls) (ok : x.ok) : Calls Tryz.prog 9 #[Pt t, Pt u, Lv x] w (Gives (.bool true) w) := told_of w (t_facts h r x ok)
/-- both tables hold the same leases; all of V is kept -/
def PD (V : World) (t u : Nat) (L : List Ls) (W : World) : Prop := ∃ (O : Nat → Prop) (p : Option Go.Addr) (c : Nat), IsTab W t O L ∧ RTab W u p c L ∧ (∀ k, O k → V.heap.size ≤ k) ∧ ¬ O u ∧ V.heap.size ≤ u ∧ (∀ b o, p = some ⟨b, o, none⟩ → L ≠ [] → ¬ O b) ∧ Below V.heap.size V W
theorem PD.step (h : PD V t u L W) (hb : Below W.heap.size W W') : PD V t u L W' := by
  obtain ⟨O, p, c, h1, h2, h3, h4, h5, h6, h7⟩ := h
  exact ⟨O, p, c, h1.below hb, h2.step hb, h3, h4, h5, h6, chain h7 hb⟩
theorem PD.bel (h : PD V t u L W) : Below V.heap.size V W := by
  obtain ⟨O, p, c, h1, h2, h3, h4, h5, h6, h7⟩ := h
  exact h7
theorem PD.told (h : PD V t u L W) (x : Ls) (ok : x.ok) : Calls Tryz.prog 9 #[Pt t, Pt u, Lv x] W (Gives (.bool true) W) := by
  obtain ⟨O, p, c, h1, h2, _⟩ := h
  exact told_any h1 h2 x ok
/-- in the middle: the program's table behind the changes, the document's ahead of them -/
def PM (V : World) (t u : Nat) (L M : List Ls) (W : World) : Prop := TabL L ∧ ∃ (O : Nat → Prop) (p : Option Go.Addr) (c : Nat), IsTab W t O M ∧ RTab W u p c L ∧ (∀ k, O k → V.heap.size ≤ k) ∧ ¬ O u ∧ V.heap.size ≤ u ∧ (∀ b o, p = some ⟨b, o, none⟩ → L ≠ [] → ¬ O b) ∧ Below V.heap.size V W
theorem PD.apply (h : PD V t u L W) {cs : List Ch} (ok : okL cs) (hl : cs.length ≤ 2000) {q : Option Go.Addr} {cap : Nat} (hu : LstC q cs V) :
    Calls Tryz.prog 7 #[Pt t, .slice q cs.length cap] W (fun e W' => e = .returned (.int .i64 (applyE L cs : Nat)) ∧ PM V t u L (applyL L cs) W') := by
  obtain ⟨O, p, c, h1, h2, h3, h4, h5, h6, h7⟩ := h
  have hu2 : LstC q cs W := hu.fr2 (S := fun k => ¬ k < V.heap.size) ⟨h7.os, h7.tape, h7.output, h7.size, fun k hk hn => h7.block k (Classical.byContradiction fun hh => hn hh)⟩ (fun b o e hne hh => hh (hu.lt hne e))
  refine (apply_any h1 ok hl hu2 (fun b o e hne hk => ?_)).mono ?_
  · have := h3 b hk; have := hu.lt hne e; omega
  · rintro e W' ⟨rfl, F, I⟩
    refine ⟨rfl, h1.tabL, Gr O W W', p, c, I, h2.fr F h4 (fun b o e hne => h6 b o e hne), fun k hk => ?_, fun hk => ?_, h5, fun b o e hne hk => ?_, h7.trans (F.below h7.size h3)⟩
    · rcases hk with hk | hk
      · exact h3 k hk
      · exact Nat.le_trans h7.size hk.1
    · rcases hk with hk | hk
      · exact h4 hk
      · have := h2.lt; omega
    · rcases hk with hk | hk
      · exact h6 b o e hne hk
      · cases hL : L with
        | nil => exact hne hL
        | cons y r =>
          obtain ⟨b2, o2, e2, hat⟩ := h2.lst 0 y (by rw [hL]; rfl)
          rw [e] at e2; cases e2
          have := lt_of_cell hat.1
          omega
theorem PM.apply {cs : List Ch} (h : PM V t u L (applyL L cs) W) (ok : okL cs) (hl : cs.length ≤ 2000) {q : Option Go.Addr} {cap : Nat} (hu : LstC q cs V) :
    Calls Tryz.prog 8 #[Pt u, .slice q cs.length cap] W (fun e W' => e = .returned (.int .i64 (applyE L cs : Nat)) ∧ PD V t u (applyL L cs) W') := by
  obtain ⟨T, O, p, c, h1, h2, h3, h4, h5, h6, h7⟩ := h
  have hu2 : LstC q cs W := hu.fr2 (S := fun k => ¬ k < V.heap.size) ⟨h7.os, h7.tape, h7.output, h7.size, fun k hk hn => h7.block k (Classical.byContradiction fun hh => hn hh)⟩ (fun b o e hne hh => hh (hu.lt hne e))
  refine (rapply_any h2 T ok hl hu2).mono ?_
  rintro e W' ⟨rfl, F, p', c', R, hp⟩
  refine ⟨rfl, O, p', c', h1.fr F (fun i hi e => by rw [e] at hi; exact h4 hi), R, h3, h4, h5, fun b o e hne hk => ?_, h7.trans (F.below h7.size (fun k e => by rw [e]; exact h5))⟩
  rcases hp b o e hne with hb | ⟨rfl, hM⟩
  · have := h1.lt b hk; omega
  · rw [hM] at hne
    exact h6 b o e hne hk
end Go.Proofs.YtpldkgollhbolaaGreat
