/-
  What Parse gathers, in memory: a box with the codes' row and the map of the data's rows, no two of which lie in one block; the contract of add. Conditions: at most 128 options of at most 4096 bytes each are gathered; a piece has at most 255 bytes.
-/
import Derived.Test.YtmoklodaeicpgaaOpG
import Derived.Deep.DeepCutAuto
namespace Go.Proofs.Ytmoklodaeicpgaa
open Go.RowKit Go.Joins Go.Maps

abbrev Pt (d : Nat) : Value := .pointer (some ⟨d, 0, none⟩)
/-- what is gathered, in memory: its codes cs, its data D -/
structure GM (W : World) (base g : Nat) (vc : Value) (m : Nat) (F : UInt8 → Option Value) (cs : List UInt8) (D : UInt8 → Option (List UInt8)) : Prop where
  box : W.heap[g]? = some (.cells #[vc, .map (some m)] 70 (0, 0))
  map : MapB W m F
  codes : OwnB W base vc cs
  dat : ∀ c, (D c = none ∧ F c = none) ∨ ∃ v d, F c = some v ∧ D c = some d ∧ OwnB W base v d
  apart : ∀ c c2 v v2, c ≠ c2 → F c = some v → F c2 = some v2 → v.ownBlock = none ∨ v.ownBlock ≠ v2.ownBlock
  capart : ∀ c v, F c = some v → v.ownBlock = none ∨ v.ownBlock ≠ vc.ownBlock
  gb : base ≤ g
  mb : base ≤ m
  wb : base ≤ W.heap.size
theorem lt_of_block {w : World} {b : Nat} {o : Obj} (h : w.heap[b]? = some o) : b < w.heap.size := (Array.getElem?_eq_some_iff.1 h).1
theorem cell_at {w : World} {b : Nat} {cur : Array Value} {t : TypeId} {fz : Nat × Nat} (h : w.heap[b]? = some (.cells cur t fz)) (i : Nat) : w.cell? ⟨b, i, none⟩ = cur[i]? := by
  simp [World.cell?, h]
theorem free_at {w : World} {b : Nat} {cur : Array Value} {t : TypeId} (h : w.heap[b]? = some (.cells cur t (0, 0))) (i : Nat) : w.frozen? ⟨b, i, none⟩ = false := by
  simp [World.frozen?, h]
theorem set_block {w : World} {b : Nat} {cur : Array Value} {t : TypeId} {fz : Nat × Nat} (h : w.heap[b]? = some (.cells cur t fz)) (i : Nat) (v : Value) :
    (w.setCell ⟨b, i, none⟩ v).heap[b]? = some (.cells (cur.setIfInBounds i v) t fz) := by
  unfold World.setCell
  show (w.heap.modify b _)[b]? = _
  rw [Array.getElem?_modify, if_pos rfl, h]
  rfl
theorem grow_cell1 (W : World) (g j : Nat) (v : Value) : W.grownBy (W.setCell ⟨g, j, none⟩ v) (some g) :=
  ⟨rfl, rfl, rfl, by simp, fun k _ hne => Below.heap_setCell W ⟨g, j, none⟩ v k (fun e => hne (by rw [e]))⟩
/-- the block of a row of bytes -/
theorem own_heap {W : World} {base : Nat} {v : Value} {l : List UInt8} (h : OwnB W base v l) {k : Nat} (hk : v.ownBlock = some k) : ∃ cur, W.heap[k]? = some (.cells cur 5 (0, 0)) := by
  rcases h.2 with ⟨rfl, _⟩ | ⟨g, cap, cur, rfl, _, hg, _⟩
  · cases hk
  · cases hk; exact ⟨cur, hg⟩
theorem own_gr {W W2 : World} {base : Nat} {v : Value} {l : List UInt8} {row : Option Nat} (h : OwnB W base v l) (hg : W.grownBy W2 row) (hne : v.ownBlock = none ∨ v.ownBlock ≠ row) : OwnB W2 base v l :=
  own_grow h hg (fun k hk e => by
    rcases hne with h0 | h0
    · rw [h0] at hk; cases hk
    · exact h0 (hk.trans e.symm)) (Nat.le_refl _)
theorem t_ne : 5 ≠ 70 := by decide
variable {W W1 W2 : World} {base g m : Nat} {vc : Value} {F : UInt8 → Option Value} {cs : List UInt8} {D : UInt8 → Option (List UInt8)}
theorem GM.row_g (h : GM W base g vc m F cs D) {v : Value} {l : List UInt8} (hv : OwnB W base v l) : v.ownBlock ≠ some g := by
  intro e
  obtain ⟨cur, hc⟩ := own_heap hv e
  rw [h.box] at hc
  injection hc with hc
  injection hc with _ hc _
  exact t_ne hc.symm
theorem GM.row_m (h : GM W base g vc m F cs D) {v : Value} {l : List UInt8} (hv : OwnB W base v l) : v.ownBlock ≠ some m := by
  intro e
  obtain ⟨cur, hc⟩ := own_heap hv e
  obtain ⟨es, c, hm⟩ := h.map.isMap
  rw [hm] at hc
  cases hc
theorem GM.gm (h : GM W base g vc m F cs D) : g ≠ m := by
  intro e
  obtain ⟨es, c, hm⟩ := h.map.isMap
  rw [← e, h.box] at hm
  cases hm
theorem GM.glt (h : GM W base g vc m F cs D) : g < W.heap.size := lt_of_block h.box
theorem GM.mlt (h : GM W base g vc m F cs D) : m < W.heap.size := by
  obtain ⟨es, c, hm⟩ := h.map.isMap
  exact lt_of_block hm
theorem below_gr {W W2 : World} (h : Below W.heap.size W W2) : W.grownBy W2 none := ⟨h.os, h.tape, h.output, h.size, fun k hk _ => h.block k hk⟩
theorem GM.step (h : GM W base g vc m F cs D) (hb : Below W.heap.size W W2) : GM W2 base g vc m F cs D := by
  have hg := below_gr hb
  have ne : ∀ {v : Value}, v.ownBlock = none ∨ v.ownBlock ≠ none := fun {v} => by cases v.ownBlock <;> simp
  refine ⟨(hb.block g h.glt).trans h.box, h.map.keep (hb.block m h.mlt), own_gr h.codes hg ne, fun c => ?_, h.apart, h.capart, h.gb, h.mb, Nat.le_trans h.wb hb.size⟩
  rcases h.dat c with h1 | ⟨v, d, h1, h2, h3⟩
  · exact Or.inl h1
  · exact Or.inr ⟨v, d, h1, h2, own_gr h3 hg ne⟩
/-- behind an append to the codes and its store -/
theorem GM.coded (h : GM W base g vc m F cs D) {v2 : Value} {cs2 : List UInt8} (hg : W.grownBy W1 vc.ownBlock) (ho : OwnB W1 base v2 cs2) (hl : Lies W vc v2) :
    GM (W1.setCell ⟨g, 0, none⟩ v2) base g v2 m F cs2 D ∧ Below base W (W1.setCell ⟨g, 0, none⟩ v2) := by
  have bx : W1.heap[g]? = some (.cells #[vc, .map (some m)] 70 (0, 0)) := (hg.block g h.glt (fun e => h.row_g h.codes e.symm)).trans h.box
  have hm1 : W1.heap[m]? = W.heap[m]? := hg.block m h.mlt (fun e => h.row_m h.codes e.symm)
  have hs : W1.grownBy (W1.setCell ⟨g, 0, none⟩ v2) (some g) := grow_cell1 W1 g 0 v2
  have gnr : ∀ {v : Value} {l : List UInt8}, OwnB W1 base v l → v.ownBlock = none ∨ v.ownBlock ≠ some g := fun {v l} hv => Or.inr (fun e => by
    obtain ⟨cur, hc⟩ := own_heap hv e
    rw [bx] at hc
    injection hc with hc
    injection hc with _ hc _
    exact t_ne hc.symm)
  have newC : ∀ (c : UInt8) (v : Value), F c = some v → v.ownBlock = none ∨ v.ownBlock ≠ v2.ownBlock := fun c v hv => by
    rcases hl with e | ⟨k, e, hk⟩
    · rw [e]; exact h.capart c v hv
    · rcases h.dat c with ⟨_, h1⟩ | ⟨u, d, h1, _, h3⟩
      · rw [h1] at hv; cases hv
      · rw [h1] at hv; cases hv
        cases hu : v.ownBlock with
        | none => exact Or.inl rfl
        | some j =>
          refine Or.inr (fun e2 => ?_)
          rw [e] at e2
          have := (h3.lt j hu).2
          cases e2
          omega
  refine ⟨⟨?_, ?_, own_gr ho hs (gnr ho), fun c => ?_, h.apart, newC, h.gb, h.mb, Nat.le_trans h.wb (Nat.le_trans hg.size hs.size)⟩, ?_⟩
  · have := set_block bx 0 v2
    exact this
  · exact (h.map.keep hm1).keep (hs.block m (Nat.lt_of_lt_of_le h.mlt hg.size) (fun e => h.gm (Option.some.inj e).symm))
  · rcases h.dat c with h1 | ⟨v, d, h1, h2, h3⟩
    · exact Or.inl h1
    · have h4 := own_gr h3 hg (h.capart c v h1)
      exact Or.inr ⟨v, d, h1, h2, own_gr h4 hs (gnr h4)⟩
  · exact ((Below.refl base W).grown hg h.wb (fun j hj => (h.codes.lt j hj).1)).grown hs (Nat.le_trans h.wb hg.size) (fun j hj => by cases hj; exact h.gb)
/-- behind an append to an option's data, what it is stored as -/
theorem GM.stored (h : GM W base g vc m F cs D) (c : UInt8) {v v2 : Value} {d2 : List UInt8} (hv : (F c).getD (.slice none 0 0) = v) (hg : W.grownBy W1 v.ownBlock) (ho : OwnB W1 base v2 d2) (hl : Lies W v v2) :
    ∃ W2, (Instr.mapUpdate 68 (.map (some m)) (KV c) v2).run Try.prog W1 = .ok () W2 ∧ GM W2 base g vc m (fun d => if d = c then some v2 else F d) cs (fun d => if d = c then some d2 else D d) ∧ Below base W W2 := by
  have hvo : ∃ l, OwnB W base v l := by
    rcases h.dat c with ⟨_, h1⟩ | ⟨u, d, h1, _, h3⟩
    · rw [h1] at hv; rw [← hv]; exact ⟨[], ownB_nil W base⟩
    · rw [h1] at hv; rw [← hv]; exact ⟨d, h3⟩
  obtain ⟨l, hvo⟩ := hvo
  have hvF : ∀ c2 u, c2 ≠ c → F c2 = some u → u.ownBlock = none ∨ u.ownBlock ≠ v.ownBlock := fun c2 u hne hu => by
    rcases h.dat c with ⟨_, h1⟩ | ⟨u1, d, h1, _, h3⟩
    · rw [h1] at hv; rw [← hv]
      cases u.ownBlock with
      | none => exact Or.inl rfl
      | some j => exact Or.inr (fun e => by cases e)
    · rw [h1] at hv
      exact h.apart c2 c u v hne hu (by rw [h1, ← hv]; rfl)
  have hvc : vc.ownBlock = none ∨ vc.ownBlock ≠ v.ownBlock := by
    rcases h.dat c with ⟨_, h1⟩ | ⟨u1, d, h1, _, h3⟩
    · rw [h1] at hv; rw [← hv]
      cases vc.ownBlock with
      | none => exact Or.inl rfl
      | some j => exact Or.inr (fun e => by cases e)
    · rw [h1] at hv
      rcases h.capart c v (by rw [h1, ← hv]; rfl) with e | e
      · cases h2 : vc.ownBlock with
        | none => exact Or.inl rfl
        | some j => rw [e]; exact Or.inr (fun e => by cases e)
      · exact Or.inr (fun e2 => e e2.symm)
  have bx : W1.heap[g]? = some (.cells #[vc, .map (some m)] 70 (0, 0)) := (hg.block g h.glt (fun e => h.row_g hvo e.symm)).trans h.box
  have hm1 : MapB W1 m F := h.map.keep (hg.block m h.mlt (fun e => h.row_m hvo e.symm))
  obtain ⟨W2, hr, hm2, hs⟩ := hm1.put c (slOk_own ho)
  have mnr : ∀ {v : Value} {l : List UInt8}, OwnB W1 base v l → v.ownBlock = none ∨ v.ownBlock ≠ some m := fun {v l} hv => Or.inr (fun e => by
    obtain ⟨cur, hc⟩ := own_heap hv e
    obtain ⟨es, c, hm⟩ := hm1.isMap
    rw [hm] at hc
    cases hc)
  have old : ∀ {u : Value} {l : List UInt8}, OwnB W base u l → u.ownBlock = none ∨ u.ownBlock ≠ v.ownBlock → OwnB W2 base u l ∧ (u.ownBlock = none ∨ u.ownBlock ≠ v2.ownBlock) := fun {u l} hu hne => by
    have h4 := own_gr hu hg hne
    refine ⟨own_gr h4 hs (mnr h4), ?_⟩
    rcases hl with e | ⟨k, e, hk⟩
    · rw [e]; exact hne
    · cases hb : u.ownBlock with
      | none => exact Or.inl rfl
      | some j =>
        refine Or.inr (fun e2 => ?_)
        rw [e] at e2
        have := (hu.lt j hb).2
        cases e2
        omega
  refine ⟨W2, hr, ⟨?_, hm2, (old h.codes hvc).1, fun c2 => ?_, fun c1 c2 u1 u2 hne h1 h2 => ?_, fun c1 u h1 => ?_, h.gb, h.mb, Nat.le_trans h.wb (Nat.le_trans hg.size hs.size)⟩, ?_⟩
  · exact (hs.block g (Nat.lt_of_lt_of_le h.glt hg.size) (fun e => h.gm (Option.some.inj e))).trans bx
  · by_cases e : c2 = c
    · rw [if_pos e, if_pos e]
      exact Or.inr ⟨v2, d2, rfl, rfl, own_gr ho hs (mnr ho)⟩
    · rw [if_neg e, if_neg e]
      rcases h.dat c2 with h1 | ⟨u, d, h1, h2, h3⟩
      · exact Or.inl h1
      · exact Or.inr ⟨u, d, h1, h2, (old h3 (hvF c2 u e h1)).1⟩
  · have own : ∀ c3 u, F c3 = some u → ∃ l, OwnB W base u l := fun c3 u hu => by
      rcases h.dat c3 with ⟨_, k1⟩ | ⟨u1, d, k1, _, k3⟩
      · rw [k1] at hu; cases hu
      · rw [k1] at hu; cases hu; exact ⟨d, k3⟩
    by_cases e1 : c1 = c
    · rw [if_pos e1] at h1
      cases h1
      rw [if_neg (fun e => hne (e1.trans e.symm))] at h2
      have e2 : c2 ≠ c := fun e => hne (e1.trans e.symm)
      obtain ⟨l2, k⟩ := own c2 u2 h2
      rcases (old k (hvF c2 u2 e2 h2)).2 with e | e
      · cases h5 : v2.ownBlock with
        | none => exact Or.inl rfl
        | some j => rw [e]; exact Or.inr (fun e => by cases e)
      · exact Or.inr (fun e3 => e e3.symm)
    · rw [if_neg e1] at h1
      by_cases e2 : c2 = c
      · rw [if_pos e2] at h2
        cases h2
        obtain ⟨l2, k⟩ := own c1 u1 h1
        exact (old k (hvF c1 u1 e1 h1)).2
      · rw [if_neg e2] at h2
        exact h.apart c1 c2 u1 u2 hne h1 h2
  · by_cases e1 : c1 = c
    · rw [if_pos e1] at h1
      cases h1
      rcases (old h.codes hvc).2 with e | e
      · cases h5 : v2.ownBlock with
        | none => exact Or.inl rfl
        | some j => rw [e]; exact Or.inr (fun e => by cases e)
      · exact Or.inr (fun e3 => e e3.symm)
    · rw [if_neg e1] at h1
      exact h.capart c1 u h1
  · exact ((Below.refl base W).grown hg h.wb (fun j hj => (hvo.lt j hj).1)).grown hs (Nat.le_trans h.wb hg.size) (fun j hj => by cases hj; exact h.mb)
/-- what is gathered -/
def GAt (W : World) (base g : Nat) (S : Gs) : Prop := ∃ vc m F, GM W base g vc m F (S.map (·.1)) (gdat S)
theorem GAt.step {S : Gs} (h : GAt W base g S) (hb : Below W.heap.size W W2) : GAt W2 base g S := by
  obtain ⟨vc, m, F, h⟩ := h
  exact ⟨vc, m, F, h.step hb⟩
theorem GAt.below {S : Gs} (h : GAt W base g S) : base ≤ W.heap.size := by
  obtain ⟨vc, m, F, h⟩ := h
  exact h.wb
end Go.Proofs.Ytmoklodaeicpgaa
