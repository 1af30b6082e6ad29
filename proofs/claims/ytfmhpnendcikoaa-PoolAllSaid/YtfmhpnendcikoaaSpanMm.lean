/-
  The walk of the law SpanMembers: it returns true. Conditions: the words are words of 64 bits (every value of the types is such).
-/
import Derived.Test.YtfmhpnendcikoaaSpanK
namespace Go.Proofs.Ytfmhpnendcikoaa
open Go.RowKit Go.Joins

theorem hasB_iff {l : List Rg} (hs : Snd l) (a : Nat) : hasB l a = true ↔ memL l a := by
  unfold hasB
  rw [sound_snd.2 hs, Bool.true_and, decide_eq_true_eq, mem_at]
  constructor
  · intro h
    have hl := to_le l a
    have hx := some_getD (show fromS l a < l.length by omega)
    have h1 := (to_iff hs hx (b := a)).1 h
    have h2 := fun e => (from_iff hs hx (a := a)).2 e
    exact ⟨_, _, hx, h1, by omega⟩
  · rintro ⟨i, x, hx, h1, h2⟩
    have h3 := (to_iff hs hx (b := a)).2 h1
    have h4 := fun e => (from_iff hs hx (a := a)).1 e
    omega
theorem in_iff (r : Rg) (a : Nat) : inB r a = true ↔ inR r a := by unfold inB inR; simp
theorem has_put {s : List Rg} {r : Rg} (hs : Snd s) (hf : FitL s) (hr : r.1 ≤ r.2) (a : Nat) : hasB (putL s r) a = (hasB s a || inB r a) := by
  obtain ⟨h1, h2⟩ := put_spec hs hf hr
  rw [Bool.eq_iff_iff, Bool.or_eq_true, hasB_iff h1, hasB_iff hs, in_iff, h2]
theorem snd_one {r : Rg} (hr : r.1 ≤ r.2) : Snd [r] := ⟨hr, by simp, trivial⟩
theorem mem_one {r : Rg} {a : Nat} : memL [r] a ↔ inR r a := by
  rw [mem_cons]
  exact ⟨fun h => h.elim id fun h => absurd h (mem_nil _), Or.inl⟩
theorem has_less {s o : List Rg} (hs : Snd s) (ho : Snd o) (a : Nat) : hasB (lessL s o) a = (hasB s a && !hasB o a) := by
  obtain ⟨h1, _, h2⟩ := less_spec hs ho
  rw [Bool.eq_iff_iff, Bool.and_eq_true, hasB_iff h1, hasB_iff hs, h2, Bool.not_eq_true', ← Bool.not_eq_true, hasB_iff ho]
theorem has_drop {s : List Rg} {r : Rg} (hs : Snd s) (hr : r.1 ≤ r.2) (a : Nat) : hasB (lessL s [r]) a = (hasB s a && !inB r a) := by
  obtain ⟨h1, _, h2⟩ := less_spec hs (snd_one hr)
  rw [Bool.eq_iff_iff, Bool.and_eq_true, hasB_iff h1, hasB_iff hs, h2, mem_one, Bool.not_eq_true', ← Bool.not_eq_true, in_iff]
theorem back_same {s : List Rg} {r : Rg} (hs : Snd s) (hf : FitL s) (hr : r.1 ≤ r.2) : putL (lessL s [r]) r = putL s r := by
  obtain ⟨h1, _, h2⟩ := less_spec hs (snd_one hr)
  obtain ⟨p1, p2⟩ := put_spec hs hf hr
  obtain ⟨q1, q2⟩ := put_spec h1 (less_fit hs (snd_one hr) hf) hr
  refine snd_ext q1 p1 fun a => ?_
  rw [q2, p2, h2, mem_one]
  constructor
  · rintro (⟨h, _⟩ | h)
    · exact Or.inl h
    · exact Or.inr h
  · rintro (h | h)
    · by_cases hi : inR r a
      · exact Or.inr hi
      · exact Or.inl ⟨h, hi⟩
    · exact Or.inr h
/-- the boxes of the range and the address -/
def HMm (w : World) (r : Rg) (a : Nat) (W : World) : Prop := Below w.heap.size w W ∧ Four w.heap.size r W ∧ Two (w.heap.size + 1) a W
theorem HMm.step {w : World} {r : Rg} {a : Nat} {W w2 : World} (h : HMm w r a W) (hb : Below W.heap.size W w2) : HMm w r a w2 := ⟨h.1.trans (hb.mono h.1.size), h.2.1.step hb, h.2.2.step hb⟩
theorem hmm_new (w : World) (r : Rg) (a : Nat) : HMm w r a ((w.alloc (.cells #[.int .u64 (hi r.1 : Nat), .int .u64 (lo r.1 : Nat), .int .u64 (hi r.2 : Nat), .int .u64 (lo r.2 : Nat)] 40)).alloc (.cells #[.int .u64 (hi a : Nat), .int .u64 (lo a : Nat)] 35)) := by
  have h2 := two_new (w.alloc (.cells #[.int .u64 (hi r.1 : Nat), .int .u64 (lo r.1 : Nat), .int .u64 (hi r.2 : Nat), .int .u64 (lo r.2 : Nat)] 40)) a 35
  rw [World.size_alloc] at h2
  exact ⟨chain (below_alloc _ _) (below_alloc _ _), (four_new w r _).step (below_alloc _ _), h2⟩
theorem builtL_good {l : List Rg} (hf : FitL l) : Snd (builtL l) ∧ FitL (builtL l) ∧ (builtL l).length ≤ 200 := built_good hf 200
/-- five addresses in a block -/
def Five (g : Nat) (q : Nat → Nat) (W : World) : Prop := ∀ i, i < 5 → W.cell? ⟨g, i * 2, none⟩ = some (.int .u64 (hi (q i) : Nat)) ∧ W.cell? ⟨g, i * 2 + 1, none⟩ = some (.int .u64 (lo (q i) : Nat))
theorem Five.step {g : Nat} {q : Nat → Nat} {W w2 : World} (h : Five g q W) (hb : Below W.heap.size W w2) : Five g q w2 := fun i hi => ⟨keep_cell hb (h i hi).1, keep_cell hb (h i hi).2⟩
def pick5 (a b c d e : Nat) (i : Nat) : Nat := match i with | 0 => a | 1 => b | 2 => c | 3 => d | _ => e
theorem five_new (V : World) (a b c d e : Nat) (t : TypeId) : Five V.heap.size (pick5 a b c d e) (V.alloc (.cells #[.int .u64 (hi a : Nat), .int .u64 (lo a : Nat), .int .u64 (hi b : Nat), .int .u64 (lo b : Nat), .int .u64 (hi c : Nat), .int .u64 (lo c : Nat), .int .u64 (hi d : Nat), .int .u64 (lo d : Nat), .int .u64 (hi e : Nat), .int .u64 (lo e : Nat)] t)) := by
  intro i hi5
  have : i = 0 ∨ i = 1 ∨ i = 2 ∨ i = 3 ∨ i = 4 := by omega
  rcases this with rfl | rfl | rfl | rfl | rfl <;> constructor <;> simp [go_sem, pick5]
/-- all that the loop of SpanMembers reads -/
def HLp (w : World) (r : Rg) (a g : Nat) (q : Nat → Nat) (vs vx vy : Value) (s x y : List Rg) (W : World) : Prop := HMm w r a W ∧ Five g q W ∧ Lst vs s W ∧ Lst vx x W ∧ Lst vy y W
theorem HLp.step {w : World} {r : Rg} {a g : Nat} {q : Nat → Nat} {vs vx vy : Value} {s x y : List Rg} {W w2 : World} (h : HLp w r a g q vs vx vy s x y W) (hb : Below W.heap.size W w2) : HLp w r a g q vs vx vy s x y w2 := ⟨h.1.step hb, h.2.1.step hb, h.2.2.1.step hb, h.2.2.2.1.step hb, h.2.2.2.2.step hb⟩

end Go.Proofs.Ytfmhpnendcikoaa
