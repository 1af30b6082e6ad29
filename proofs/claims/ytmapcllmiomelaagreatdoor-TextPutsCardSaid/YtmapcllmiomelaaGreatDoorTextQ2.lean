/-
  The contract of the document's own groups: the eight groups of an address. Condition: the words are words of 64 bits (every value of the type is such).
-/
import Derived.Test.YtmapcllmiomelaaGreatDoorTextQ1
import Derived.Test.YtmapcllmiomelaaGreatDoorTextRm
import Derived.Test.YtmapcllmiomelaaGreatDoorTextR1
namespace Go.Proofs.YtmapcllmiomelaaGreatDoor
open Go.RowKit Go.Joins

/-- eight cells of 64 bits -/
def RowU (g : Nat) (f : Nat → Nat) (W : World) : Prop := g < W.heap.size ∧ ∀ j, j < 8 → W.cell? ⟨g, j, none⟩ = some (.int .u64 (f j : Nat)) ∧ W.frozen? ⟨g, j, none⟩ = false
theorem RowU.step {g : Nat} {f : Nat → Nat} {W w2 : World} (h : RowU g f W) (hb : Below W.heap.size W w2) : RowU g f w2 :=
  ⟨Nat.lt_of_lt_of_le h.1 hb.size, fun j hj => ⟨keep_cell hb (h.2 j hj).1, keep_free hb h.1 (h.2 j hj).2⟩⟩
abbrev cells8 (f : Nat → Nat) : Array Value := #[.int .u64 (f 0 : Nat), .int .u64 (f 1 : Nat), .int .u64 (f 2 : Nat), .int .u64 (f 3 : Nat), .int .u64 (f 4 : Nat), .int .u64 (f 5 : Nat), .int .u64 (f 6 : Nat), .int .u64 (f 7 : Nat)]
theorem rowU_new (w : World) (f : Nat → Nat) (t : TypeId) : RowU w.heap.size f (w.alloc (.cells (cells8 f) t)) := by
  refine ⟨by simp, fun j hj => ?_⟩
  have : j = 0 ∨ j = 1 ∨ j = 2 ∨ j = 3 ∨ j = 4 ∨ j = 5 ∨ j = 6 ∨ j = 7 := by omega
  rcases this with rfl | rfl | rfl | rfl | rfl | rfl | rfl | rfl <;> simp [go_sem]
theorem rowU_zero (w : World) (t : TypeId) : RowU w.heap.size (fun _ => 0) (w.alloc (.cells #[.int .u64 0, .int .u64 0, .int .u64 0, .int .u64 0, .int .u64 0, .int .u64 0, .int .u64 0, .int .u64 0] t)) := rowU_new w (fun _ => 0) t
theorem RowU.set {g : Nat} {f : Nat → Nat} {W : World} (h : RowU g f W) {p : Go.Addr} (hp : g ≠ p.block) (u : Value) : RowU g f (W.setCell p u) := by
  refine ⟨by simp; exact h.1, fun j hj => ?_⟩
  rw [World.cell?_of_block (w := W) (Below.heap_setCell W p u g hp), World.frozen?_of_block (w := W) (Below.heap_setCell W p u g hp)]
  exact h.2 j hj
theorem RowU.put {g : Nat} {f f' : Nat → Nat} {W : World} (h : RowU g f W) {k : Nat} (hk : k < 8) (e : ∀ j, j < 8 → j ≠ k → f' j = f j) : RowU g f' (W.setCell ⟨g, k, none⟩ (.int .u64 (f' k : Nat))) := by
  refine ⟨by simp; exact h.1, fun j hj => ?_⟩
  obtain ⟨c, fr⟩ := h.2 j hj
  by_cases ej : j = k
  · subst ej
    exact ⟨by simp [go_sem, c], by simp [go_sem, fr]⟩
  · refine ⟨?_, by simp [go_sem, fr]⟩
    have h1 := World.cell?_setCells_out g [.int .u64 (f' k : Nat)] k W ⟨g, j, none⟩ (fun _ _ => by simp; omega)
    exact (h1.trans c).trans (by rw [e j hj ej])
/-- the groups that stand behind so many rounds -/
def gF (a k j : Nat) : Nat := if j < k ∨ (4 ≤ j ∧ j < 4 + k) then grpA a j else 0
/-- one group more, of the upper half -/
def midF (a k j : Nat) : Nat := if j = k then grpA a k else gF a k j
theorem midF_at (a k : Nat) : midF a k k = grpA a k := by unfold midF; rw [if_pos rfl]
theorem midF_ne {a k j : Nat} (h : j ≠ k) : midF a k j = gF a k j := by unfold midF; rw [if_neg h]
theorem gF_next {a k j : Nat} (h : j ≠ 4 + k) : gF a (k + 1) j = midF a k j := by
  unfold midF gF
  by_cases e : j = k
  · rw [if_pos e, if_pos (by omega), e]
  · rw [if_neg e]
    by_cases c : j < k ∨ (4 ≤ j ∧ j < 4 + k)
    · rw [if_pos c, if_pos (by omega)]
    · rw [if_neg c, if_neg (by omega)]
/-- the groups as one value -/
def V8 (f : Nat → Nat) : Value := .agg (cells8 f)
/-- what stands about a round of groups -/
def HGr (w : World) (a k : Nat) (W : World) : Prop := Below w.heap.size w W ∧ Rf.Two w.heap.size a W ∧ RowU (w.heap.size + 1) (fun _ => 0) W ∧ RowU (w.heap.size + 1 + 1) (gF a k) W
set_option maxRecDepth 100000 in
set_option maxHeartbeats 2000000 in
theorem rgroups_any (a : Nat) (w : World) : Calls Tryz.prog 27 #[A a] w (Gives (V8 (grpA a)) w) := by
  have H0 : HGr w a 0 (((w.alloc (.cells #[.int .u64 (hi a : Nat), .int .u64 (lo a : Nat)] 24)).alloc (.cells #[.int .u64 0, .int .u64 0, .int .u64 0, .int .u64 0, .int .u64 0, .int .u64 0, .int .u64 0, .int .u64 0] 58)).alloc (.cells #[.int .u64 0, .int .u64 0, .int .u64 0, .int .u64 0, .int .u64 0, .int .u64 0, .int .u64 0, .int .u64 0] 58)) := by
    have e : gF a 0 = fun _ => 0 := by funext j; unfold gF; rw [if_neg (by omega)]
    have t1 := Rf.two_new w a 24
    have b1 := below_alloc w (.cells #[.int .u64 (hi a : Nat), .int .u64 (lo a : Nat)] 24)
    generalize hv : w.alloc (.cells #[.int .u64 (hi a : Nat), .int .u64 (lo a : Nat)] 24) = V at *
    have sV : V.heap.size = w.heap.size + 1 := by rw [← hv]; simp
    have r1 := rowU_zero V 58
    have b2 := below_alloc V (.cells #[.int .u64 0, .int .u64 0, .int .u64 0, .int .u64 0, .int .u64 0, .int .u64 0, .int .u64 0, .int .u64 0] 58)
    generalize hu : V.alloc (.cells #[.int .u64 0, .int .u64 0, .int .u64 0, .int .u64 0, .int .u64 0, .int .u64 0, .int .u64 0, .int .u64 0] 58) = U at *
    have sU : U.heap.size = w.heap.size + 1 + 1 := by rw [← hu]; simp [sV]
    have r2 := rowU_zero U 58
    have b3 := below_alloc U (.cells #[.int .u64 0, .int .u64 0, .int .u64 0, .int .u64 0, .int .u64 0, .int .u64 0, .int .u64 0, .int .u64 0] 58)
    rw [sV] at r1
    rw [sU] at r2
    exact ⟨chain (chain b1 b2) b3, (t1.step b2).step b3, r1.step b3, by rw [e]; exact r2⟩
  go_enter Tryz.func27, Tryz.ntmps27
  go_wp2_with fail
  go_loopw [4] (fun i wr => ∃ k : Nat, k ≤ 4 ∧ i = .int .i64 (k : Int) ∧ HGr w a k wr) (fun i _ => 4 - (intOf i).toNat)
  case atStart => exact ⟨0, by omega, rfl, H0⟩
  case round =>
    clear H0
    obtain ⟨k, hk, rfl, HB, TW, RZ, RG⟩ := hrel
    obtain ⟨a0, a1, _⟩ := id TW
    have hl := hi_lo a
    by_cases hlt : k < 4
    · have R1 := hide (fun W (h : RowU (w.heap.size + 1 + 1) (gF a k) W) => h.put (f' := midF a k) (show k < 8 by omega) (fun j _ hn => midF_ne hn))
      have R2 := hide (fun W (h : RowU (w.heap.size + 1 + 1) (midF a k) W) => h.put (f' := gF a (k + 1)) (show 4 + k < 8 by omega) (fun j _ hn => gF_next hn))
      have M1 : midF a k k = grpA a k := midF_at a k
      have M2 : gF a (k + 1) (4 + k) = grpA a (4 + k) := by unfold gF; rw [if_pos (by omega)]
      obtain ⟨c0, f0⟩ := RG.2 k (by omega)
      obtain ⟨c1, f1⟩ := RG.2 (4 + k) (by omega)
      have LG := RG.1
      have R12 := R2.out _ (R1.out wr RG)
      rw [M1, M2] at R12
      clear R1 R2 M1 M2
      rcases (show k = 0 ∨ k = 1 ∨ k = 2 ∨ k = 3 by omega) with rfl | rfl | rfl | rfl
      · have E1 : (hi a : Int) / 281474976710656 % 65536 = (grpA a 0 : Int) := by unfold grpA hi; simp only [Nat.reduceMul, Nat.reduceSub, Nat.reducePow]; omega
        have E2 : (lo a : Int) / 281474976710656 % 65536 = (grpA a (4 + 0) : Int) := by unfold grpA lo; simp only [Nat.reduceMul, Nat.reduceSub, Nat.reduceAdd, Nat.reducePow]; omega
        go_wp2
        exact ⟨⟨1, by omega, rfl, (HB.setCell (by dsimp only; omega) _).setCell (by dsimp only; omega) _, (TW.set (by dsimp only; omega) _).set (by dsimp only; omega) _, (RZ.set (by dsimp only; omega) _).set (by dsimp only; omega) _, R12⟩, by simp [intOf]⟩
      · have E1 : (hi a : Int) / 4294967296 % 65536 = (grpA a 1 : Int) := by unfold grpA hi; simp only [Nat.reduceMul, Nat.reduceSub, Nat.reducePow]; omega
        have E2 : (lo a : Int) / 4294967296 % 65536 = (grpA a (4 + 1) : Int) := by unfold grpA lo; simp only [Nat.reduceMul, Nat.reduceSub, Nat.reduceAdd, Nat.reducePow]; omega
        go_wp2
        exact ⟨⟨2, by omega, rfl, (HB.setCell (by dsimp only; omega) _).setCell (by dsimp only; omega) _, (TW.set (by dsimp only; omega) _).set (by dsimp only; omega) _, (RZ.set (by dsimp only; omega) _).set (by dsimp only; omega) _, R12⟩, by simp [intOf]⟩
      · have E1 : (hi a : Int) / 65536 % 65536 = (grpA a 2 : Int) := by unfold grpA hi; simp only [Nat.reduceMul, Nat.reduceSub, Nat.reducePow]; omega
        have E2 : (lo a : Int) / 65536 % 65536 = (grpA a (4 + 2) : Int) := by unfold grpA lo; simp only [Nat.reduceMul, Nat.reduceSub, Nat.reduceAdd, Nat.reducePow]; omega
        go_wp2
        exact ⟨⟨3, by omega, rfl, (HB.setCell (by dsimp only; omega) _).setCell (by dsimp only; omega) _, (TW.set (by dsimp only; omega) _).set (by dsimp only; omega) _, (RZ.set (by dsimp only; omega) _).set (by dsimp only; omega) _, R12⟩, by simp [intOf]⟩
      · have E1 : (hi a : Int) % 65536 = (grpA a 3 : Int) := by unfold grpA hi; simp only [Nat.reduceMul, Nat.reduceSub, Nat.reducePow]; omega
        have E2 : (lo a : Int) % 65536 = (grpA a (4 + 3) : Int) := by unfold grpA lo; simp only [Nat.reduceMul, Nat.reduceSub, Nat.reduceAdd, Nat.reducePow]; omega
        go_wp2
        exact ⟨⟨4, by omega, rfl, (HB.setCell (by dsimp only; omega) _).setCell (by dsimp only; omega) _, (TW.set (by dsimp only; omega) _).set (by dsimp only; omega) _, (RZ.set (by dsimp only; omega) _).set (by dsimp only; omega) _, R12⟩, by simp [intOf]⟩
    · have h4 : ¬ (k : Int) < 4 := by omega
      have e4 : k = 4 := by omega
      have R4 : RowU (w.heap.size + 1 + 1) (grpA a) wr := by
        refine ⟨RG.1, fun j hj => ?_⟩
        have := RG.2 j hj
        rwa [show gF a k j = grpA a j by unfold gF; rw [if_pos (by omega)]] at this
      clear RG e4 hk hlt
      obtain ⟨_, cs⟩ := id R4
      obtain ⟨_, zs⟩ := id RZ
      have c0 := (cs 0 (by omega)).1
      obtain ⟨z0, y0⟩ := zs 0 (by omega)
      have c1 := (cs 1 (by omega)).1
      obtain ⟨z1, y1⟩ := zs 1 (by omega)
      have c2 := (cs 2 (by omega)).1
      obtain ⟨z2, y2⟩ := zs 2 (by omega)
      have c3 := (cs 3 (by omega)).1
      obtain ⟨z3, y3⟩ := zs 3 (by omega)
      have c4 := (cs 4 (by omega)).1
      obtain ⟨z4, y4⟩ := zs 4 (by omega)
      have c5 := (cs 5 (by omega)).1
      obtain ⟨z5, y5⟩ := zs 5 (by omega)
      have c6 := (cs 6 (by omega)).1
      obtain ⟨z6, y6⟩ := zs 6 (by omega)
      have c7 := (cs 7 (by omega)).1
      obtain ⟨z7, y7⟩ := zs 7 (by omega)
      clear cs zs a0 a1
      go_wp2
      refine bodyPost_ret (v := V8 (grpA a)) ?_ rfl ⟨rfl, ((((((((HB.setCell (by dsimp only; omega) _).setCell (by dsimp only; omega) _).setCell (by dsimp only; omega) _).setCell (by dsimp only; omega) _).setCell (by dsimp only; omega) _).setCell (by dsimp only; omega) _).setCell (by dsimp only; omega) _).setCell (by dsimp only; omega) _)⟩
      simp [results, Tryz.results27, go_sem, V8, z0, z1, z2, z3, z4, z5, z6, z7]
end Go.Proofs.YtmapcllmiomelaaGreatDoor
