/-
  The contract of readIA: what it returns, and where it gives up. Condition: a string is no longer than an int.
-/
import Derived.Test.YtcpldojgmboipaaSxV
namespace Go.Proofs.Ytcpldojgmboipaa
open Go.RowKit Go.Joins

abbrev zeroA : Array Value := #[.int .i64 0, .int .u32 0, .int .u32 0, .int .u32 0, .slice none 0 0, .int .i64 0]
/-- the memory of readIA: its four boxes -/
structure RAw (w : World) (o : Opt) (n : Nat) (cs : Array Value) (W : World) : Prop where
  below : Below w.heap.size w W
  arg : Bx w.heap.size 40 #[.int .u16 (o.1.toNat : Int), .string o.2] W
  res : Bx (w.heap.size + 1) 37 zeroA W
  box : Bx (w.heap.size + 2) 37 cs W
  rd : Rd (w.heap.size + 3) (De o.2 n) W
theorem RAw.step {w : World} {o : Opt} {n : Nat} {cs : Array Value} {W W2 : World} (h : RAw w o n cs W) (hb : Below W.heap.size W W2) : RAw w o n cs W2 := ⟨chain h.below hb, h.arg.step hb, h.res.step hb, h.box.step hb, h.rd.step hb⟩
theorem RAw.read {w : World} {o : Opt} {n : Nat} {cs : Array Value} {W W2 : World} (h : RAw w o n cs W) {m : Nat} (hr : Rd (w.heap.size + 3) (De o.2 m) W2) (hf : Fr (At (w.heap.size + 3)) W W2) : RAw w o m cs W2 :=
  ⟨h.below.trans (hf.below h.below.size (fun k e => by omega)), h.arg.fr hf (by omega), h.res.fr hf (by omega), h.box.fr hf (by omega), hr⟩
theorem RAw.die {w : World} {o : Opt} {n : Nat} {cs : Array Value} {W W2 : World} (h : RAw w o n cs W) (hf : Fr (At (w.heap.size + 3)) W W2) : Fr No w W2 :=
  Fr.ofBelow (h.below.trans (hf.below h.below.size (fun k e => by omega)))
theorem RAw.set {w : World} {o : Opt} {n : Nat} {cs : Array Value} {W : World} (h : RAw w o n cs W) (i : Nat) (v : Value) : RAw w o n (cs.setIfInBounds i v) (W.setCell ⟨w.heap.size + 2, i, none⟩ v) :=
  ⟨h.below.setCell (by show w.heap.size ≤ w.heap.size + 2; omega) v, h.arg.other (by show w.heap.size ≠ w.heap.size + 2; omega) v, h.res.other (by show w.heap.size + 1 ≠ w.heap.size + 2; omega) v, h.box.set i v, (show Rd _ _ _ from Bx.other (t := 54) h.rd (by show w.heap.size + 3 ≠ w.heap.size + 2; omega) v)⟩
theorem RAw.cast {w : World} {o : Opt} {n m : Nat} {cs ds : Array Value} {W : World} (h : RAw w o n cs W) (e : m = n) (f : ds = cs) : RAw w o m ds W := by subst e f; exact h
/-- the memory of its loop: two boxes, the options, what has been read -/
structure RKw (w : World) (cs : Array Value) (vh : Value) (has : List In) (v : Value) (l : List Opt) (W : World) : Prop where
  below : Below w.heap.size w W
  res : Bx (w.heap.size + 1) 37 zeroA W
  box : Bx (w.heap.size + 2) 37 cs W
  hs : OwnI W (w.heap.size + 4) vh has
  row : OwnO W (w.heap.size + 4) v l
  room : w.heap.size + 4 ≤ W.heap.size
theorem RKw.step {w : World} {cs : Array Value} {vh v : Value} {has : List In} {l : List Opt} {W W2 : World} (h : RKw w cs vh has v l W) (hb : Below W.heap.size W W2) : RKw w cs vh has v l W2 := ⟨chain h.below hb, h.res.step hb, h.box.step hb, own_keep h.hs hb, own_keep h.row hb, Nat.le_trans h.room hb.size⟩
theorem RKw.set {w : World} {cs : Array Value} {vh v : Value} {has : List In} {l : List Opt} {W : World} (h : RKw w cs vh has v l W) (i : Nat) (x : Value) : RKw w (cs.setIfInBounds i x) vh has v l (W.setCell ⟨w.heap.size + 2, i, none⟩ x) :=
  ⟨h.below.setCell (by show w.heap.size ≤ w.heap.size + 2; omega) x, h.res.other (by show w.heap.size + 1 ≠ w.heap.size + 2; omega) x, h.box.set i x, own_fr h.hs (fr_set W (w.heap.size + 2) i x) (fun g hg e => by have := own_ge h.hs g hg.symm; omega), own_fr h.row (fr_set W (w.heap.size + 2) i x) (fun g hg e => by have := own_ge h.row g hg.symm; omega), Nat.le_trans h.room (fr_set W (w.heap.size + 2) i x).size⟩
/-- rows of two types lie in two blocks -/
theorem own_apart {W : World} {b1 b2 s1 s2 n1 n2 : Nat} {t1 t2 : TypeId} {v1 v2 : Value} {x1 x2 : List Value} (h1 : W.ownsRow b1 t1 s1 v1 n1 x1) (h2 : W.ownsRow b2 t2 s2 v2 n2 x2) (ht : t1 ≠ t2) : ∀ g, v1.ownBlock = some g → some g = v2.ownBlock → False := by
  intro g e1 e2
  rcases h1.2 with ⟨rfl, _⟩ | ⟨g1, c1, u1, rfl, _, k1, _⟩
  · cases e1
  · rcases h2.2 with ⟨rfl, _⟩ | ⟨g2, c2, u2, rfl, _, k2, _⟩
    · cases e2
    · cases e1; cases e2
      rw [k1] at k2
      cases k2
      exact ht rfl
/-- .. one more has been read -/
theorem RKw.add {w : World} {cs : Array Value} {vh v vn : Value} {has hn : List In} {l : List Opt} {W W2 : World} (h : RKw w cs vh has v l W) (hr : OwnI W2 (w.heap.size + 4) vn hn) (hg : W.grownBy W2 vh.ownBlock) : RKw w cs vn hn v l W2 := by
  have hf := Fr.grown hg
  have ge := own_ge h.hs
  exact ⟨h.below.trans (hf.below h.below.size (fun k e => by have := ge k e; omega)), h.res.fr hf (fun e => by have := ge _ e; omega), h.box.fr hf (fun e => by have := ge _ e; omega), hr, own_fr h.row hf (fun g e1 e2 => own_apart h.row h.hs (by decide) g e1 e2), Nat.le_trans h.room hf.size⟩
def cellsK (A : IA) (c : Int) (vh : Value) : Array Value := cellsA { A with code := c } vh
theorem RAw.opts {w : World} {o : Opt} {n : Nat} {A : IA} {c : Int} {W W2 : World} (h : RAw w o n (cellsK A c (.slice none 0 0)) W) {v : Value} {l : List Opt} (ho : OwnO W2 W.heap.size v l) (hf : Fr (At (w.heap.size + 3)) W W2) : RKw w (cellsK A c (.slice none 0 0)) (.slice none 0 0) [] v l W2 :=
  ⟨h.below.trans (hf.below h.below.size (fun k e => by omega)), h.res.fr hf (by omega), h.box.fr hf (by omega), ownI_nil _ _, ownO_base ho (by have := h.rd.lt; omega), by have := h.rd.lt; have := hf.size; omega⟩
/-- what readIA does -/
def RAP (o : Opt) (w : World) (e : Ending) (w' : World) : Prop :=
  match readA o with
  | .ok a => ∃ v, e = .returned (AV a v) ∧ OwnI w' w.heap.size v a.has ∧ Below w.heap.size w w'
  | .error y => Dies y No w e w'
theorem rap_ok {o : Opt} {a : IA} {w w' : World} {v : Value} (h : readA o = .ok a) (hr : OwnI w' w.heap.size v a.has) (hb : Below w.heap.size w w') : RAP o w (.returned (AV a v)) w' := by unfold RAP; rw [h]; exact ⟨v, rfl, hr, hb⟩
theorem rap_no {o : Opt} {y : Int} {w w' : World} (h : readA o = .error y) (hb : Fr No w w') : RAP o w (.panicked (Chain y)) w' := by unfold RAP; rw [h]; exact ⟨rfl, hb⟩
theorem readA_none {o : Opt} (h : kindK o.1.toNat = 0) : readA o = .error 130 := by unfold readA; simp only; rw [if_pos h]
theorem readA_short {o : Opt} (h : ¬ kindK o.1.toNat = 0) (hz : o.2.size < sizeA (kindK o.1.toNat)) : readA o = .error 3 := by unfold readA; simp only; rw [if_neg h, if_pos hz]
theorem mkA_with (k : Int) (s : List UInt8) (p : Int × List In) : mkA k s p = { mkA k s (-1, []) with code := p.1, has := p.2 } := by unfold mkA; split <;> rfl
theorem readA_go {o : Opt} {k : Int} (hk : kindK o.1.toNat = k) (h0 : ¬ k = 0) (hz : sizeA k ≤ o.2.size) {A : IA} (hA : mkA k (lb o.2) (-1, []) = A) :
    (∀ y, parseK 0 ((lb o.2).drop (sizeA k)) = .error y → readA o = .error y) ∧
      ∀ l, parseK 0 ((lb o.2).drop (sizeA k)) = .ok l → (∀ y, walkF k (-1) [] l = .error y → readA o = .error y) ∧ ∀ p, walkF k (-1) [] l = .ok p → readA o = .ok { A with code := p.1, has := p.2 } := by
  unfold readA
  simp only
  rw [hk, if_neg h0, if_neg (by omega)]
  refine ⟨fun y hp => by rw [hp], fun l hp => ?_⟩
  rw [hp]
  refine ⟨fun y hs => by simp only [hs], fun p hs => ?_⟩
  simp only [hs]
  rw [mkA_with, hA]
theorem walkF_13 {k : Int} {x : Opt} {r : List Opt} {c : Int} {has : List In} (h : x.1.toNat = 13) : (x.2.size < 2 → walkF k c has (x :: r) = .error 130) ∧ (¬ x.2.size < 2 → walkF k c has (x :: r) = walkF k (if c = -1 then (beV ((lb x.2).take 2) : Nat) else c) has r) := by
  rw [walkF, if_pos h]
  exact ⟨fun h => if_pos h, fun h => if_neg h⟩
theorem walkF_no {k : Int} {x : Opt} {r : List Opt} {c : Int} {has : List In} (h : ¬ x.1.toNat = 13) (h2 : ¬ x.1.toNat = (codeW k).toNat) : walkF k c has (x :: r) = walkF k c has r := by rw [walkF, if_neg h, if_neg h2]
theorem walkF_in {k : Int} {x : Opt} {r : List Opt} {c : Int} {has : List In} (h2 : x.1.toNat = (codeW k).toNat) :
    (8 ≤ has.length → walkF k c has (x :: r) = .error 6) ∧ (¬ 8 ≤ has.length → (∀ y, readI k (lb x.2) = .error y → walkF k c has (x :: r) = .error y) ∧ ∀ i, readI k (lb x.2) = .ok i → walkF k c has (x :: r) = walkF k c (has ++ [i]) r) := by
  rw [walkF, if_neg (by rw [h2]; exact code13 k), if_pos h2]
  refine ⟨fun h => if_pos h, fun h => ?_⟩
  rw [if_neg h]
  exact ⟨fun y e => by rw [e], fun i e => by rw [e]⟩
end Go.Proofs.Ytcpldojgmboipaa
