/-
  Rows of lists of changes in memory; the contract of the law's filled. Condition: fewer than 2^63 lists, of changes of their types.
  A table that is changed while all else stays: what a call's own table is from call to call; All, Next, Copy at any later world. No condition beyond those in each theorem's own statement.
  The walk of the law TableApart: it returns true. Condition: fewer than 2^63 lists, of changes of their types.
-/
import Derived.Test.YtpldkgollhbolaaGreatTbAw
import Derived.BigQuiet
namespace Go.Proofs.YtpldkgollhbolaaGreat
open Go.RowKit Go.Joins Go.Maps

variable {w w' V W W' : World} {t km om : Nat} {O : Nat → Prop} {v : Value} {E : List En} {L : List Ls}
/-- a slice that reads as a row of lists of changes -/
def RwsC (p : Option Go.Addr) (ls : List (List Ch)) (W : World) : Prop := ∀ (k : Nat) (l : List Ch), ls[k]? = some l → ∃ b o q c, p = some ⟨b, o, none⟩ ∧ W.cell? ⟨b, o + k, none⟩ = some (.slice q l.length c) ∧ LstC q l W
theorem RwsC.step {p : Option Go.Addr} {ls : List (List Ch)} (h : RwsC p ls W) (hb : Below W.heap.size W W') : RwsC p ls W' := fun k l hk => by
  obtain ⟨b, o, q, c, h1, h2, h3⟩ := h k l hk
  exact ⟨b, o, q, c, h1, keep_cell hb h2, h3.step hb⟩
theorem LstC.lt {q : Option Go.Addr} {l : List Ch} (h : LstC q l W) (hl : l ≠ []) {b o : Nat} (e : q = some ⟨b, o, none⟩) : b < W.heap.size := by
  cases l with
  | nil => exact absurd rfl hl
  | cons x r =>
    obtain ⟨b2, o2, h1, h2⟩ := h 0 x rfl
    obtain ⟨cur, ty, fz, hb⟩ := h2.cells
    rw [e] at h1; cases h1
    exact lt_of_block hb
/-- what a list played makes of a table; what lists do -/
def playL (L : List Ls) (l : List Ch) : List Ls := if l.length ≤ 300 then applyL L l else L
def fillL (L : List Ls) (ls : List (List Ch)) : List Ls := ls.foldl playL L
theorem fillL_snoc (L : List Ls) (ls : List (List Ch)) (l : List Ch) : fillL L (ls ++ [l]) = playL (fillL L ls) l := by unfold fillL; rw [List.foldl_append]; rfl
end Go.Proofs.YtpldkgollhbolaaGreat
namespace Go.Proofs.YtpldkgollhbolaaGreat
open Go.RowKit Go.Joins Go.Maps

variable {w w' V W W' : World} {t km om : Nat} {O : Nat → Prop} {v : Value} {E : List En} {L : List Ls}
/-- a table whose blocks are O or newer than w; all else of w is kept -/
def Kp (w W : World) (t : Nat) (O : Nat → Prop) (L : List Ls) : Prop := Fr O w W ∧ IsTab W t (Gr O w W) L
theorem Kp.start (h : IsTab w t O L) : Kp w w t O L :=
  ⟨Fr.refl _ _, h.wider (fun _ hk => Or.inl hk) (fun k hk => hk.elim (h.lt k) (fun e => e.2))⟩
theorem Kp.below (h : Kp w W t O L) (hb : Below W.heap.size W W') : Kp w W' t O L :=
  ⟨h.1.andNo (Fr.ofBelow hb), (h.2.below hb).wider (fun _ hk => hk.imp id (fun e => ⟨e.1, Nat.lt_of_lt_of_le e.2 hb.size⟩))
    (fun k hk => hk.elim (fun e => Nat.lt_of_lt_of_le (h.2.lt k (Or.inl e)) hb.size) (fun e => e.2))⟩
theorem LstC.fr2 {p : Option Go.Addr} {l : List Ch} {S : Nat → Prop} (h : LstC p l W) (f : Fr S W W') (hn : ∀ b o, p = some ⟨b, o, none⟩ → l ≠ [] → ¬ S b) : LstC p l W' := by
  cases l with
  | nil => exact fun k x hk => by cases hk
  | cons x r => exact h.fr f (fun b o e => hn b o e (List.cons_ne_nil _ _))
theorem LstL.fr2 {p : Option Go.Addr} {l : List Ls} {S : Nat → Prop} (h : LstL p l W) (f : Fr S W W') (hn : ∀ b o, p = some ⟨b, o, none⟩ → l ≠ [] → ¬ S b) : LstL p l W' := by
  cases l with
  | nil => exact fun k x hk => by cases hk
  | cons x r => exact h.fr f (fun b o e => hn b o e (List.cons_ne_nil _ _))
theorem Kp.apply (h : Kp w W t O L) {cs : List Ch} (ok : okL cs) (hl : cs.length ≤ 2000) {p : Option Go.Addr} {cap : Nat} (hu : LstC p cs w) (hn : ∀ b o, p = some ⟨b, o, none⟩ → cs ≠ [] → ¬ O b) :
    Calls Tryz.prog 7 #[Pt t, .slice p cs.length cap] W (fun e W' => e = .returned (.int .i64 (applyE L cs : Nat)) ∧ Kp w W' t O (applyL L cs)) := by
  refine (apply_any h.2 ok hl (hu.fr2 h.1 hn) (fun b o e hne hk => ?_)).mono ?_
  · rcases hk with hk | hk
    · exact hn b o e hne hk
    · have := hu.lt hne e; omega
  · rintro e W' ⟨rfl, F, I⟩
    refine ⟨rfl, fr_gr h.1 F, I.wider (fun k hk => ?_) (fun k hk => ?_)⟩
    · rcases hk with hk | hk
      · exact hk.imp id (fun e => ⟨e.1, Nat.lt_of_lt_of_le e.2 F.size⟩)
      · exact Or.inr ⟨Nat.le_trans h.1.size hk.1, hk.2⟩
    · rcases hk with hk | hk
      · exact Nat.lt_of_lt_of_le (h.2.lt k (Or.inl hk)) F.size
      · exact hk.2
theorem next_any (h : IsTab w t O L) : Calls Tryz.prog 15 #[Pt t] w (Same (.tuple #[.int .i64 (nextL L), .bool (decide (L ≠ []))]) w) := by
  cases L with
  | nil => exact next_none h
  | cons x r => exact next_some h (List.cons_ne_nil _ _)
/-- what a table tells in any later world -/
structure Tells (V : World) (t : Nat) (L : List Ls) : Prop where
  all : ∀ W, Below V.heap.size V W → Calls Tryz.prog 11 #[Pt t] W (LsPost W L)
  tab : ∀ W, Below V.heap.size V W → ∃ O, IsTab W t O L
  copy : ∀ W, Below V.heap.size V W → Calls Tryz.prog 13 #[Pt t] W (MadePost W L)
theorem IsTab.tells (h : IsTab w t O L) : Tells w t L := ⟨fun _ hb => all_any (h.below hb), fun _ hb => ⟨O, h.below hb⟩, fun _ hb => copy_any (h.below hb)⟩
/-- the next end of every table with these leases -/
theorem nexts (L : List Ls) : ∃ (nx : Int) (nb : Bool), ∀ W O t, IsTab W t O L → Calls Tryz.prog 15 #[Pt t] W (Same (.tuple #[.int .i64 nx, .bool nb]) W) := ⟨_, _, fun _ _ _ h => next_any h⟩
theorem Tells.step (h : Tells V t L) (hb : Below V.heap.size V W) : Tells W t L := ⟨fun W2 h2 => h.all W2 (chain hb h2), fun W2 h2 => h.tab W2 (chain hb h2), fun W2 h2 => h.copy W2 (chain hb h2)⟩
/-- cells that may be written -/
def Wr (g n : Nat) (W : World) : Prop := ∀ j, j < n → (∃ u, W.cell? ⟨g, j, none⟩ = some u) ∧ W.frozen? ⟨g, j, none⟩ = false
theorem Wr.set {g n : Nat} (h : Wr g n W) (k : Nat) (u : Value) : Wr g n (W.setCell ⟨g, k, none⟩ u) := fun j hj => by
  refine ⟨?_, by rw [World.frozen?_setCell]; exact (h j hj).2⟩
  by_cases e : k = j
  · subst e
    obtain ⟨x, hx⟩ := (h k hj).1
    exact ⟨u, World.cell?_setCell_same _ _ _ hx⟩
  · obtain ⟨x, hx⟩ := (h j hj).1
    exact ⟨x, (World.cell?_setCell_other _ _ _ _ (by intro e2; cases e2; exact e rfl)).trans hx⟩
theorem holds_wr {g : Nat} {F : List Ls} (h : HoldsL W g F) : Wr g (F.length * 8) W := fun j hj => by
  obtain ⟨x, hx⟩ : ∃ x, F[j / 8]? = some x := ⟨_, List.getElem?_eq_getElem (by omega)⟩
  obtain ⟨a, b⟩ := holds_block h hx (j % 8) (Nat.mod_lt _ (by omega))
  rw [show j / 8 * 8 + j % 8 = j by omega] at a b
  have hl : (wdL x).length = 8 := rfl
  rw [List.getElem?_eq_getElem (by rw [hl]; exact Nat.mod_lt _ (by omega))] at a
  exact ⟨⟨_, a⟩, b⟩
theorem fillL_snoc2 (L : List Ls) (ls : List (List Ch)) (k : Nat) (l : List Ch) (h : ls[k]? = some l) : fillL L (ls.take (k + 1)) = playL (fillL L (ls.take k)) l := by rw [List.take_add_one, h]; exact fillL_snoc ..
end Go.Proofs.YtpldkgollhbolaaGreat
namespace Go.Proofs.YtpldkgollhbolaaGreat
open Go.RowKit Go.Joins Go.Maps

variable {w w' V W W' : World} {t km om : Nat} {O : Nat → Prop} {v : Value} {E : List En} {L : List Ls}
structure One (w : World) (b o i : Nat) (x : Ls) (W : World) : Prop where
  bel : Below w.heap.size w W
  at' : AtL b (o + i * 8) x W
structure Two8 (w : World) (b o i k : Nat) (x y : Ls) (W : World) : Prop where
  bel : Below w.heap.size w W
  at1 : AtL b (o + i * 8) x W
  at2 : AtL b (o + k * 8) y W
theorem AtL.step {b o : Nat} {x : Ls} (h : AtL b o x W) (hb : Below W.heap.size W W') : AtL b o x W' := h.fr (Fr.ofBelow hb) (fun e => e)
theorem One.step {b o i : Nat} {x : Ls} (h : One w b o i x W) (hb : Below W.heap.size W W') : One w b o i x W' := ⟨chain h.bel hb, h.at'.step hb⟩
theorem Two8.step {b o i k : Nat} {x y : Ls} (h : Two8 w b o i k x y W) (hb : Below W.heap.size W W') : Two8 w b o i k x y W' := ⟨chain h.bel hb, h.at1.step hb, h.at2.step hb⟩
theorem One.flat {b o i : Nat} {x : Ls} (h : One w b o i x W) : One w b o i x W ∧ W.cell? ⟨b, o + i * 8, none⟩ = some (.int .i64 x.kind) ∧ W.cell? ⟨b, o + i * 8 + 1, none⟩ = some (.int .u64 (hi x.p : Nat)) ∧ W.cell? ⟨b, o + i * 8 + 2, none⟩ = some (.int .u64 (lo x.p : Nat)) ∧ W.cell? ⟨b, o + i * 8 + 3, none⟩ = some (.int .i64 x.n) ∧ W.cell? ⟨b, o + i * 8 + 4, none⟩ = some (.int .i64 x.st) ∧ W.cell? ⟨b, o + i * 8 + 5, none⟩ = some (.string x.cl) ∧ W.cell? ⟨b, o + i * 8 + 6, none⟩ = some (.int .u32 (x.ia : Int)) ∧ W.cell? ⟨b, o + i * 8 + 7, none⟩ = some (.int .i64 x.un) := by
  obtain ⟨a0, a1, a2, a3, a4, a5, a6, a7⟩ := h.at'
  exact ⟨h, a0, a1, a2, a3, a4, a5, a6, a7⟩
theorem One.flat0 {b o : Nat} {x : Ls} (h : One w b o 0 x W) : One w b o 0 x W ∧ W.cell? ⟨b, o, none⟩ = some (.int .i64 x.kind) ∧ W.cell? ⟨b, o + 1, none⟩ = some (.int .u64 (hi x.p : Nat)) ∧ W.cell? ⟨b, o + 2, none⟩ = some (.int .u64 (lo x.p : Nat)) ∧ W.cell? ⟨b, o + 3, none⟩ = some (.int .i64 x.n) ∧ W.cell? ⟨b, o + 4, none⟩ = some (.int .i64 x.st) ∧ W.cell? ⟨b, o + 5, none⟩ = some (.string x.cl) ∧ W.cell? ⟨b, o + 6, none⟩ = some (.int .u32 (x.ia : Int)) ∧ W.cell? ⟨b, o + 7, none⟩ = some (.int .i64 x.un) := by
  have e : o + 0 * 8 = o := by omega
  have k := h.at'
  rw [e] at k
  obtain ⟨a0, a1, a2, a3, a4, a5, a6, a7⟩ := k
  exact ⟨h, a0, a1, a2, a3, a4, a5, a6, a7⟩
theorem Two8.flat {b o i k : Nat} {x y : Ls} (h : Two8 w b o i k x y W) : Two8 w b o i k x y W ∧ W.cell? ⟨b, o + i * 8, none⟩ = some (.int .i64 x.kind) ∧ W.cell? ⟨b, o + i * 8 + 1, none⟩ = some (.int .u64 (hi x.p : Nat)) ∧ W.cell? ⟨b, o + i * 8 + 2, none⟩ = some (.int .u64 (lo x.p : Nat)) ∧ W.cell? ⟨b, o + i * 8 + 3, none⟩ = some (.int .i64 x.n) ∧ W.cell? ⟨b, o + i * 8 + 4, none⟩ = some (.int .i64 x.st) ∧ W.cell? ⟨b, o + i * 8 + 5, none⟩ = some (.string x.cl) ∧ W.cell? ⟨b, o + i * 8 + 6, none⟩ = some (.int .u32 (x.ia : Int)) ∧ W.cell? ⟨b, o + i * 8 + 7, none⟩ = some (.int .i64 x.un) ∧ W.cell? ⟨b, o + k * 8, none⟩ = some (.int .i64 y.kind) ∧ W.cell? ⟨b, o + k * 8 + 1, none⟩ = some (.int .u64 (hi y.p : Nat)) ∧ W.cell? ⟨b, o + k * 8 + 2, none⟩ = some (.int .u64 (lo y.p : Nat)) ∧ W.cell? ⟨b, o + k * 8 + 3, none⟩ = some (.int .i64 y.n) ∧ W.cell? ⟨b, o + k * 8 + 4, none⟩ = some (.int .i64 y.st) ∧ W.cell? ⟨b, o + k * 8 + 5, none⟩ = some (.string y.cl) ∧ W.cell? ⟨b, o + k * 8 + 6, none⟩ = some (.int .u32 (y.ia : Int)) ∧ W.cell? ⟨b, o + k * 8 + 7, none⟩ = some (.int .i64 y.un) := by
  obtain ⟨a0, a1, a2, a3, a4, a5, a6, a7⟩ := h.at1
  obtain ⟨b0, b1, b2, b3, b4, b5, b6, b7⟩ := h.at2
  exact ⟨h, a0, a1, a2, a3, a4, a5, a6, a7, b0, b1, b2, b3, b4, b5, b6, b7⟩
/-- of two leases of a table one isn't leased, or they differ in what owns them -/
theorem own_cases {x y : Ls} (h : ¬ (bndB x = true ∧ bndB y = true ∧ ownB x y = true)) : (x.st == 1) = false ∨ ((x.st == 1) = true ∧ (y.st == 1) = false) ∨ ((x.st == 1) = true ∧ (y.st == 1) = true ∧ (x.kind == y.kind) = false) ∨
    ((x.st == 1) = true ∧ (y.st == 1) = true ∧ (x.kind == y.kind) = true ∧ (x.cl.toList == y.cl.toList) = false) ∨ ((x.st == 1) = true ∧ (y.st == 1) = true ∧ (x.kind == y.kind) = true ∧ (x.cl.toList == y.cl.toList) = true ∧ ((x.ia : Int) == (y.ia : Int)) = false) := by
  rw [bytes_ne]
  unfold bndB ownB at h
  simp only [decide_eq_true_iff, beq_iff_eq, beq_eq_false_iff_ne, decide_eq_false_iff_not] at h ⊢
  by_cases h1 : x.st = 1
  · by_cases h2 : y.st = 1
    · by_cases h3 : x.kind = y.kind
      · by_cases h4 : x.cl = y.cl
        · refine Or.inr (Or.inr (Or.inr (Or.inr ⟨h1, h2, h3, h4, fun e => h ⟨h1, h2, h3, h4, by omega⟩⟩)))
        · exact Or.inr (Or.inr (Or.inr (Or.inl ⟨h1, h2, h3, h4⟩)))
      · exact Or.inr (Or.inr (Or.inl ⟨h1, h2, h3⟩))
    · exact Or.inr (Or.inl ⟨h1, h2⟩)
  · exact Or.inl h1
end Go.Proofs.YtpldkgollhbolaaGreat
