/-
  A table that is changed while all else stays: what a call's own table is from call to call; All, Next, Copy at any later world. No condition beyond those in each theorem's own statement.
-/
import Derived.Test.YtpldkgollhbolaaTbFi
namespace Go.Proofs.Ytpldkgollhbolaa
open Go.RowKit Go.Joins Go.Maps

variable {w w' V W W' : World} {t km om : Nat} {O : Nat → Prop} {v : Value} {E : List En} {L : List Ls}
/-- a table whose blocks are O or newer than w; all else of w is kept -/
def Kp (w W : World) (t : Nat) (O : Nat → Prop) (L : List Ls) : Prop := Fr O w W ∧ IsTab W t (Gr O w W) L
theorem Kp.start (h : IsTab w t O L) : Kp w w t O L :=
  ⟨Fr.refl _ _, h.wider (fun _ hk => Or.inl hk) (fun k hk => hk.elim (h.lt k) (fun e => e.2))⟩
theorem Kp.below (h : Kp w W t O L) (hb : Below W.heap.size W W') : Kp w W' t O L :=
  ⟨h.1.andNo (Fr.ofBelow hb), (h.2.below hb).wider (fun _ hk => hk.imp id (fun e => ⟨e.1, Nat.lt_of_lt_of_le e.2 hb.size⟩))
    (fun k hk => hk.elim (fun e => Nat.lt_of_lt_of_le (h.2.lt k (Or.inl e)) hb.size) (fun e => e.2))⟩
theorem LstC.fr2 {p : Option Go.Addr} {l : List Ch} {S : Nat → Prop} (h : LstC p l W) (f : Fr S W W') (hn : ∀ b o, p = some ⟨b, o, none⟩ → l ≠ [] → ¬ S b) : LstC p l W' := by
  cases l with
  | nil => exact fun k x hk => by cases hk
  | cons x r => exact h.fr f (fun b o e => hn b o e (List.cons_ne_nil _ _))
theorem LstL.fr2 {p : Option Go.Addr} {l : List Ls} {S : Nat → Prop} (h : LstL p l W) (f : Fr S W W') (hn : ∀ b o, p = some ⟨b, o, none⟩ → l ≠ [] → ¬ S b) : LstL p l W' := by
  cases l with
  | nil => exact fun k x hk => by cases hk
  | cons x r => exact h.fr f (fun b o e => hn b o e (List.cons_ne_nil _ _))
theorem Kp.apply (h : Kp w W t O L) {cs : List Ch} (ok : okL cs) (hl : cs.length ≤ 2000) {p : Option Go.Addr} {cap : Nat} (hu : LstC p cs w) (hn : ∀ b o, p = some ⟨b, o, none⟩ → cs ≠ [] → ¬ O b) :
    Calls Try.prog 22 #[Pt t, .slice p cs.length cap] W (fun e W' => e = .returned (.int .i64 (applyE L cs : Nat)) ∧ Kp w W' t O (applyL L cs)) := by
  refine (apply_any h.2 ok hl (hu.fr2 h.1 hn) (fun b o e hne hk => ?_)).mono ?_
  · rcases hk with hk | hk
    · exact hn b o e hne hk
    · have := hu.lt hne e; omega
  · rintro e W' ⟨rfl, F, I⟩
    refine ⟨rfl, fr_gr h.1 F, I.wider (fun k hk => ?_) (fun k hk => ?_)⟩
    · rcases hk with hk | hk
      · exact hk.imp id (fun e => ⟨e.1, Nat.lt_of_lt_of_le e.2 F.size⟩)
      · exact Or.inr ⟨Nat.le_trans h.1.size hk.1, hk.2⟩
    · rcases hk with hk | hk
      · exact Nat.lt_of_lt_of_le (h.2.lt k (Or.inl hk)) F.size
      · exact hk.2
theorem next_any (h : IsTab w t O L) : Calls Try.prog 19 #[Pt t] w (Same (.tuple #[.int .i64 (nextL L), .bool (decide (L ≠ []))]) w) := by
  cases L with
  | nil => exact next_none h
  | cons x r => exact next_some h (List.cons_ne_nil _ _)
/-- what a table tells in any later world -/
structure Tells (V : World) (t : Nat) (L : List Ls) : Prop where
  all : ∀ W, Below V.heap.size V W → Calls Try.prog 9 #[Pt t] W (LsPost W L)
  tab : ∀ W, Below V.heap.size V W → ∃ O, IsTab W t O L
  copy : ∀ W, Below V.heap.size V W → Calls Try.prog 21 #[Pt t] W (MadePost W L)
theorem IsTab.tells (h : IsTab w t O L) : Tells w t L := ⟨fun _ hb => all_any (h.below hb), fun _ hb => ⟨O, h.below hb⟩, fun _ hb => copy_any (h.below hb)⟩
/-- the next end of every table with these leases -/
theorem nexts (L : List Ls) : ∃ (nx : Int) (nb : Bool), ∀ W O t, IsTab W t O L → Calls Try.prog 19 #[Pt t] W (Same (.tuple #[.int .i64 nx, .bool nb]) W) := ⟨_, _, fun _ _ _ h => next_any h⟩
theorem Tells.step (h : Tells V t L) (hb : Below V.heap.size V W) : Tells W t L := ⟨fun W2 h2 => h.all W2 (chain hb h2), fun W2 h2 => h.tab W2 (chain hb h2), fun W2 h2 => h.copy W2 (chain hb h2)⟩
/-- cells that may be written -/
def Wr (g n : Nat) (W : World) : Prop := ∀ j, j < n → (∃ u, W.cell? ⟨g, j, none⟩ = some u) ∧ W.frozen? ⟨g, j, none⟩ = false
theorem Wr.set {g n : Nat} (h : Wr g n W) (k : Nat) (u : Value) : Wr g n (W.setCell ⟨g, k, none⟩ u) := fun j hj => by
  refine ⟨?_, by rw [World.frozen?_setCell]; exact (h j hj).2⟩
  by_cases e : k = j
  · subst e
    obtain ⟨x, hx⟩ := (h k hj).1
    exact ⟨u, World.cell?_setCell_same _ _ _ hx⟩
  · obtain ⟨x, hx⟩ := (h j hj).1
    exact ⟨x, (World.cell?_setCell_other _ _ _ _ (by intro e2; cases e2; exact e rfl)).trans hx⟩
theorem holds_wr {g : Nat} {F : List Ls} (h : HoldsL W g F) : Wr g (F.length * 8) W := fun j hj => by
  obtain ⟨x, hx⟩ : ∃ x, F[j / 8]? = some x := ⟨_, List.getElem?_eq_getElem (by omega)⟩
  obtain ⟨a, b⟩ := holds_block h hx (j % 8) (Nat.mod_lt _ (by omega))
  rw [show j / 8 * 8 + j % 8 = j by omega] at a b
  have hl : (wdL x).length = 8 := rfl
  rw [List.getElem?_eq_getElem (by rw [hl]; exact Nat.mod_lt _ (by omega))] at a
  exact ⟨⟨_, a⟩, b⟩
theorem fillL_snoc2 (L : List Ls) (ls : List (List Ch)) (k : Nat) (l : List Ch) (h : ls[k]? = some l) : fillL L (ls.take (k + 1)) = playL (fillL L (ls.take k)) l := by rw [List.take_add_one, h]; exact fillL_snoc ..
end Go.Proofs.Ytpldkgollhbolaa
