/-
  Contract of Put. Conditions: the words are words of 64 bits; a slice has at most 100000 ranges.
-/
import Derived.Test.YtfmhpnendcikoaaSpanG
import Derived.Test.YtfmhpnendcikoaaSpanX
import Derived.Deep.RegionHeld3
import Derived.Deep.DeepCutAuto
namespace Go.Proofs.Ytfmhpnendcikoaa
open Go.RowKit Go.Joins

/-- what Put keeps -/
def HP (w : World) (v : Value) (l : List Rg) (r : Rg) (W : World) : Prop := Below w.heap.size w W ∧ Four w.heap.size r W ∧ Lst v l W
theorem HP.step {w : World} {v : Value} {l : List Rg} {r : Rg} {W w2 : World} (h : HP w v l r W) (hb : Below W.heap.size W w2) : HP w v l r w2 := ⟨h.1.trans (hb.mono h.1.size), h.2.1.step hb, h.2.2.step hb⟩
theorem HP.drew {w : World} {v : Value} {l : List Rg} {r : Rg} {W : World} (h : HP w v l r W) : HP w v l r W.drew := h.step (below_drew W)
theorem HP.alloc {w : World} {v : Value} {l : List Rg} {r : Rg} {W : World} (h : HP w v l r W) (o : Obj) : HP w v l r (W.alloc o) := h.step (below_alloc W o)
theorem hp_new (w : World) {v : Value} {l : List Rg} (r : Rg) (hl : Lst v l w) : HP w v l r (w.alloc (.cells #[.int .u64 (hi r.1 : Nat), .int .u64 (lo r.1 : Nat), .int .u64 (hi r.2 : Nat), .int .u64 (lo r.2 : Nat)] 40)) := ⟨below_alloc _ _, four_new _ _ _, hl.step (below_alloc _ _)⟩
/-- what the two regions that merge keep -/
theorem hp_all {w : World} {b o c : Nat} {l : List Rg} {r x : Rg} {k : Nat} (hx : l[k]? = some x) {W : World} (h : HP w (.slice (some ⟨b, o, none⟩) l.length c) l r W) :
    HP w (.slice (some ⟨b, o, none⟩) l.length c) l r W ∧ (W.cell? ⟨w.heap.size, 0, none⟩ = some (.int .u64 (hi r.1 : Nat)) ∧ W.cell? ⟨w.heap.size, 1, none⟩ = some (.int .u64 (lo r.1 : Nat)) ∧ W.cell? ⟨w.heap.size, 2, none⟩ = some (.int .u64 (hi r.2 : Nat)) ∧ W.cell? ⟨w.heap.size, 3, none⟩ = some (.int .u64 (lo r.2 : Nat)))∧ (W.frozen? ⟨w.heap.size, 0, none⟩ = false ∧ W.frozen? ⟨w.heap.size, 1, none⟩ = false ∧ W.frozen? ⟨w.heap.size, 2, none⟩ = false ∧ W.frozen? ⟨w.heap.size, 3, none⟩ = false) ∧
      W.cell? ⟨b, o + k * 4, none⟩ = some (.int .u64 (hi x.1 : Nat)) ∧ W.cell? ⟨b, o + k * 4 + 1, none⟩ = some (.int .u64 (lo x.1 : Nat)) ∧ W.cell? ⟨b, o + k * 4 + 2, none⟩ = some (.int .u64 (hi x.2 : Nat)) ∧ W.cell? ⟨b, o + k * 4 + 3, none⟩ = some (.int .u64 (lo x.2 : Nat)) := by
  refine ⟨h, h.2.1.2.1, h.2.1.2.2, ?_⟩
  rcases h.2.2 with ⟨p, c', hv, rfl, _⟩ | ⟨b', o', c', hv, hr, _⟩
  · simp at hx
  · cases hv
    exact hr.2 k x hx
theorem lst_set {b o c : Nat} {l : List Rg} {n : Nat} {W : World} (h : Lst (.slice (some ⟨b, o, none⟩) n c) l W) {p : Go.Addr} (hp : b ≠ p.block) (u : Value) : Lst (.slice (some ⟨b, o, none⟩) n c) l (W.setCell p u) := by
  rcases h with h | ⟨b', o', c', hv, hr, h⟩
  · exact Or.inl h
  · have hv' := hv
    cases hv'
    exact Or.inr ⟨b, o, c, rfl, hr.set hp u, h⟩
theorem HP.put1 {w : World} {b o c n : Nat} {l : List Rg} {r : Rg} {W : World} (hb : b < w.heap.size) (h : HP w (.slice (some ⟨b, o, none⟩) n c) l r W) (y : Nat) : HP w (.slice (some ⟨b, o, none⟩) n c) l (y, r.2) ((W.setCell ⟨w.heap.size, 0, none⟩ (.int .u64 (hi y : Nat))).setCell ⟨w.heap.size, 1, none⟩ (.int .u64 (lo y : Nat))) :=
  ⟨(h.1.setCell (by dsimp only; omega) _).setCell (by dsimp only; omega) _, h.2.1.put1 y, lst_set (lst_set h.2.2 (by dsimp only; omega) _) (by dsimp only; omega) _⟩
theorem HP.put2 {w : World} {b o c n : Nat} {l : List Rg} {r : Rg} {W : World} (hb : b < w.heap.size) (h : HP w (.slice (some ⟨b, o, none⟩) n c) l r W) (y : Nat) : HP w (.slice (some ⟨b, o, none⟩) n c) l (r.1, y) ((W.setCell ⟨w.heap.size, 2, none⟩ (.int .u64 (hi y : Nat))).setCell ⟨w.heap.size, 3, none⟩ (.int .u64 (lo y : Nat))) :=
  ⟨(h.1.setCell (by dsimp only; omega) _).setCell (by dsimp only; omega) _, h.2.1.put2 y, lst_set (lst_set h.2.2 (by dsimp only; omega) _) (by dsimp only; omega) _⟩
theorem four_later {V : World} {t : TypeId} (a b : Nat) : Four V.heap.size (a, b) (V.alloc (.cells #[.int .u64 (hi a : Nat), .int .u64 (lo a : Nat), .int .u64 (hi b : Nat), .int .u64 (lo b : Nat)] t)).drew := (four_new V (a, b) t).step (below_drew _)
/-- what Put gives: a list of the call's own, and no error -/
def PutGives (l : List Rg) (w : World) (e : Ending) (w' : World) : Prop := ∃ v, e = .returned (.tuple #[v, .int .i64 0]) ∧ Below w.heap.size w w' ∧ Own w' w.heap.size v l
theorem midR_lt {l : List Rg} {r x y : Rg} {f t : Nat} (h : f < t) (hx : l[f]? = some x) (hy : l[t - 1]? = some y) : midR l r f t = (min r.1 x.1, max r.2 y.2) := by unfold midR; rw [if_pos h, getD_some hx, getD_some hy]
theorem midR_ge {l : List Rg} {r : Rg} {f t : Nat} (h : ¬ f < t) : midR l r f t = r := by unfold midR; rw [if_neg h]

theorem lst_take {b o c n f : Nat} {l : List Rg} {W : World} (h : Lst (.slice (some ⟨b, o, none⟩) n c) l W) (hf : f ≤ l.length) : Lst (.slice (some ⟨b, o, none⟩) f c) (l.take f) W := by
  rcases Nat.eq_zero_or_pos f with rfl | hp
  · rcases h with ⟨p, c', hv, _, _, hb⟩ | ⟨b', o', c', hv, _, _, _, hb⟩
    · cases hv; exact Or.inl ⟨_, _, rfl, by simp, fun e => (by cases e), hb⟩
    · cases hv; exact Or.inl ⟨_, _, rfl, by simp, fun e => (by cases e), hb⟩
  · rcases h with ⟨p, c', hv, rfl, _⟩ | ⟨b', o', c', hv, hr, hc, hne, hb⟩
    · simp at hf; omega
    · cases hv
      have hlen : (l.take f).length = f := by rw [List.length_take]; omega
      refine Or.inr ⟨b, o, c, by rw [hlen], ⟨hr.1, fun j x hx => ?_⟩, by omega, fun e => by rw [e] at hlen; simp at hlen; omega, hb⟩
      rw [List.getElem?_take] at hx
      split at hx
      · exact hr.2 j x hx
      · cases hx
theorem lst_drop {b o c n t : Nat} {l : List Rg} {W : World} (h : Lst (.slice (some ⟨b, o, none⟩) n c) l W) (_ht : t ≤ l.length) : Lst (.slice (some ⟨b, o + t * 4, none⟩) (l.length - t) (c - t)) (l.drop t) W := by
  have hlen : (l.drop t).length = l.length - t := List.length_drop
  by_cases hd : l.drop t = []
  · rw [hd] at hlen
    simp at hlen
    rcases h with ⟨p, c', hv, _, _, hb⟩ | ⟨b', o', c', hv, _, _, _, hb⟩
    · cases hv; exact Or.inl ⟨_, _, by rw [← hlen], hd, fun e => (by cases e), by omega⟩
    · cases hv; exact Or.inl ⟨_, _, by rw [← hlen], hd, fun e => (by cases e), by omega⟩
  · rcases h with ⟨p, c', hv, rfl, _⟩ | ⟨b', o', c', hv, hr, hc, hne, hb⟩
    · simp at hd
    · cases hv
      refine Or.inr ⟨b, o + t * 4, c - t, by rw [hlen], ⟨hr.1, fun j x hx => ?_⟩, by omega, hd, by omega⟩
      rw [List.getElem?_drop] at hx
      have := hr.2 (t + j) x hx
      rwa [show o + (t + j) * 4 = o + t * 4 + j * 4 by omega] at this
theorem lst_end {b o n t : Nat} {l : List Rg} {W : World} (h : Lst (.slice (some ⟨b, o, none⟩) n t) l W) : Lst (.slice (some ⟨b, o, none⟩) 0 0) (l.drop t) W := by
  have hle : l.length ≤ t := by
    rcases h with ⟨p, c', hv, rfl, _⟩ | ⟨b', o', c', hv, hr, hc, hne, hb⟩
    · simp
    · cases hv; omega
  exact Or.inl ⟨_, _, rfl, List.drop_eq_nil_of_le hle, fun e => (by cases e), by omega⟩
theorem lst_one {g : Nat} {m : Rg} {W : World} (h : Four g m W) : Lst (.slice (some ⟨g, 0, none⟩) 1 1) [m] W := by
  refine Or.inr ⟨g, 0, 1, rfl, ⟨h.1, fun j x hx => ?_⟩, by simp, by simp, by omega⟩
  cases j with
  | zero => simp at hx; subst hx; exact h.2.1
  | succ j => simp at hx
theorem parts_new {wc : World} {v0 v2 : Value} {l0 l2 : List Rg} {m : Rg} {t1 t2 : TypeId} (h0 : Lst v0 l0 wc) (h2 : Lst v2 l2 wc) :
    Parts (wc.heap.size + 1) [v0, .slice (some ⟨wc.heap.size, 0, none⟩) 1 1, v2] [l0, [m], l2] ((wc.alloc (.cells #[.int .u64 (hi m.1 : Nat), .int .u64 (lo m.1 : Nat), .int .u64 (hi m.2 : Nat), .int .u64 (lo m.2 : Nat)] t1)).alloc (.cells #[v0, .slice (some ⟨wc.heap.size, 0, none⟩) 1 1, v2] t2)) := by
  have h1 := lst_one (four_new wc m t1)
  have hb : Below wc.heap.size wc (wc.alloc (.cells #[.int .u64 (hi m.1 : Nat), .int .u64 (lo m.1 : Nat), .int .u64 (hi m.2 : Nat), .int .u64 (lo m.2 : Nat)] t1)) := below_alloc _ _
  have hs : (wc.alloc (.cells #[.int .u64 (hi m.1 : Nat), .int .u64 (lo m.1 : Nat), .int .u64 (hi m.2 : Nat), .int .u64 (lo m.2 : Nat)] t1)).heap.size = wc.heap.size + 1 := by simp
  generalize wc.alloc (.cells #[.int .u64 (hi m.1 : Nat), .int .u64 (lo m.1 : Nat), .int .u64 (hi m.2 : Nat), .int .u64 (lo m.2 : Nat)] t1) = V at h1 hb hs ⊢
  rw [← hs]
  refine ⟨by simp, rfl, fun j v hj => ?_, fun j v l hv hl => ?_⟩
  · match j, hj with
    | 0, hj => simp at hj; subst hj; simp [go_sem]
    | 1, hj => simp at hj; subst hj; simp [go_sem]
    | 2, hj => simp at hj; subst hj; simp [go_sem]
    | j + 3, hj => simp at hj
  · match j, hv, hl with
    | 0, hv, hl => simp at hv hl; subst hv hl; exact (h0.step hb).step (below_alloc _ _)
    | 1, hv, hl => simp at hv hl; subst hv hl; exact h1.step (below_alloc _ _)
    | 2, hv, hl => simp at hv hl; subst hv hl; exact (h2.step hb).step (below_alloc _ _)
    | j + 3, hv, hl => simp at hv
theorem own_base {W : World} {base base' : Nat} {v : Value} {l : List Rg} (h : Own W base v l) (hb : base' ≤ base) : Own W base' v l := by
  refine ⟨h.1, ?_⟩
  rcases h.2 with hn | ⟨g, cap, cur, h1, h2, h3⟩
  · exact Or.inl hn
  · exact Or.inr ⟨g, cap, cur, h1, Nat.le_trans hb h2, h3⟩

/-- the box of Put's range, no list at hand -/
theorem put_nil {r : Rg} : putL [] r = [r] := by unfold putL midR fromS toS; simp
end Go.Proofs.Ytfmhpnendcikoaa
