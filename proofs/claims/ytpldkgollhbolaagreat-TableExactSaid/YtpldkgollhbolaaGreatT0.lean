/-
  Mathematics of a binary heap: what sifting up and down keeps. Plain arithmetic over functions from places to numbers, and lists with two places exchanged; no program. No condition beyond those in each theorem's own statement.
  What stays of memory while other memory is written; pointers as elements of maps. No condition beyond those in each theorem's own statement.
  The leases of a table as a list in their order: what a change does, what lists of changes do, what takes a change back. Plain definitions and mathematics; no program is walked. No condition beyond those in each theorem's own statement.
-/
import Derived.Test.YtpldkgollhbolaaGreatL0
import Derived.Maps.OwnSet
import Derived.Maps.RangeWalk
import Derived.IntWalk
import Derived.Lib.Hide
import Derived.DeepKeys4
namespace Go.Proofs.YtpldkgollhbolaaGreat

/-- none of the first n places lies below its parent -/
def HeapF (f : Nat → Int) (n : Nat) : Prop := ∀ k, 0 < k → k < n → f ((k - 1) / 2) ≤ f k
/-- .. but perhaps j; and j's children don't lie below j's parent -/
def UpInv (f : Nat → Int) (n j : Nat) : Prop :=
  (∀ k, 0 < k → k < n → k ≠ j → f ((k - 1) / 2) ≤ f k) ∧ (0 < j → ∀ k, 0 < k → k < n → (k - 1) / 2 = j → f ((j - 1) / 2) ≤ f k)
/-- .. but perhaps i's children, and i0 as long as nothing has moved -/
def DnInv (f : Nat → Int) (n i0 i : Nat) : Prop :=
  (∀ k, 0 < k → k < n → (k - 1) / 2 ≠ i → (k ≠ i0 ∨ i ≠ i0) → f ((k - 1) / 2) ≤ f k) ∧ (0 < i → ∀ k, 0 < k → k < n → (k - 1) / 2 = i → f ((i - 1) / 2) ≤ f k)
/-- two places exchanged -/
def sw (f : Nat → Int) (i j : Nat) (k : Nat) : Int := if k = i then f j else if k = j then f i else f k
theorem sw_i (f : Nat → Int) (i j : Nat) : sw f i j i = f j := by unfold sw; rw [if_pos rfl]
theorem sw_j (f : Nat → Int) (i j : Nat) : sw f i j j = f i := by
  unfold sw
  by_cases h : j = i
  · rw [if_pos h, h]
  · rw [if_neg h, if_pos rfl]
theorem sw_ne (f : Nat → Int) {i j k : Nat} (h1 : k ≠ i) (h2 : k ≠ j) : sw f i j k = f k := by unfold sw; rw [if_neg h1, if_neg h2]

theorem up_step {f : Nat → Int} {n j i : Nat} (h : UpInv f n j) (hj : 0 < j) (hn : j < n) (hi : (j - 1) / 2 = i) (hlt : f j < f i) : UpInv (sw f i j) n i := by
  obtain ⟨h1, h2⟩ := h
  have h2 := h2 hj
  rw [hi] at h2
  have hij : i ≠ j := by omega
  refine ⟨fun k hk0 hkn hki => ?_, fun hi0 k hk0 hkn hpk => ?_⟩
  · by_cases hkj : k = j
    · subst hkj
      rw [hi, sw_i, sw_j]; omega
    · rw [sw_ne f hki hkj]
      by_cases hp : (k - 1) / 2 = i
      · rw [hp, sw_i]
        have := h1 k hk0 hkn hkj
        rw [hp] at this; omega
      · by_cases hp2 : (k - 1) / 2 = j
        · rw [hp2, sw_j]; exact h2 k hk0 hkn hp2
        · rw [sw_ne f hp hp2]; exact h1 k hk0 hkn hkj
  · have e1 : sw f i j ((i - 1) / 2) = f ((i - 1) / 2) := sw_ne f (by omega) (by omega)
    rw [e1]
    have hgi := h1 i hi0 (by omega) hij
    by_cases hkj : k = j
    · subst hkj; rw [sw_j]; exact hgi
    · rw [sw_ne f (by omega) hkj]
      have := h1 k hk0 hkn hkj
      rw [hpk] at this; omega
theorem up_stop {f : Nat → Int} {n j : Nat} (h : UpInv f n j) (hs : j = 0 ∨ f ((j - 1) / 2) ≤ f j) : HeapF f n := by
  intro k hk0 hkn
  by_cases hkj : k = j
  · subst hkj
    rcases hs with hs | hs
    · omega
    · exact hs
  · exact h.1 k hk0 hkn hkj
theorem dn_step {f : Nat → Int} {n i0 i j : Nat} (h : DnInv f n i0 i) (hj : (j - 1) / 2 = i) (hj0 : 0 < j) (hn : j < n) (hm : ∀ k, 0 < k → k < n → (k - 1) / 2 = i → f j ≤ f k) (hlt : f j < f i) (h0 : i0 ≤ i) : DnInv (sw f i j) n i0 j := by
  obtain ⟨h1, h2⟩ := h
  have hij : i ≠ j := by omega
  refine ⟨fun k hk0 hkn hpk _ => ?_, fun _ k hk0 hkn hpk => ?_⟩
  · by_cases hp : (k - 1) / 2 = i
    · rw [hp, sw_i]
      by_cases hkj : k = j
      · subst hkj; rw [sw_j]; omega
      · rw [sw_ne f (by omega) hkj]; exact hm k hk0 hkn hp
    · rw [sw_ne f hp hpk]
      by_cases hki : k = i
      · subst hki
        rw [sw_i]
        exact h2 hk0 j hj0 hn hj
      · have hkj : k ≠ j := by intro e; subst e; exact hp hj
        rw [sw_ne f hki hkj]
        exact h1 k hk0 hkn hp (by omega)
  · rw [hj, sw_i, sw_ne f (by omega) (by omega)]
    have := h1 k hk0 hkn (by omega) (by omega)
    rw [hpk] at this; exact this
theorem dn_stop {f : Nat → Int} {n i0 i : Nat} (h : DnInv f n i0 i) (hs : ∀ k, 0 < k → k < n → (k - 1) / 2 = i → f i ≤ f k) (h0 : i0 ≤ i) : (i = i0 → UpInv f n i0) ∧ (i ≠ i0 → HeapF f n) := by
  obtain ⟨h1, h2⟩ := h
  refine ⟨fun e => ?_, fun hne => ?_⟩
  · subst e
    refine ⟨fun k hk0 hkn hki => ?_, h2⟩
    by_cases hp : (k - 1) / 2 = i
    · rw [hp]; exact hs k hk0 hkn hp
    · exact h1 k hk0 hkn hp (Or.inl hki)
  · intro k hk0 hkn
    by_cases hp : (k - 1) / 2 = i
    · rw [hp]; exact hs k hk0 hkn hp
    · exact h1 k hk0 hkn hp (Or.inr hne)
/-- one more at the end -/
theorem up_start {f : Nat → Int} {n : Nat} (h : HeapF f n) : UpInv f (n + 1) n := by
  refine ⟨fun k hk0 hkn hkj => h k hk0 (by omega), fun _ k hk0 hkn hpk => ?_⟩
  omega
/-- the last one put in the place of another -/
theorem dn_start {f : Nat → Int} {n i : Nat} (h : HeapF f (n + 1)) (hi : i < n) : DnInv (sw f i n) n i i := by
  refine ⟨fun k hk0 hkn hpk hor => ?_, fun hi0 k hk0 hkn hpk => ?_⟩
  · have hki : k ≠ i := by omega
    rw [sw_ne f hpk (by omega), sw_ne f hki (by omega)]
    exact h k hk0 (by omega)
  · rw [sw_ne f (by omega) (by omega), sw_ne f (by omega) (by omega)]
    have a := h k hk0 (by omega)
    have b := h i hi0 (by omega)
    rw [hpk] at a; omega
theorem heap_less {f : Nat → Int} {n m : Nat} (h : HeapF f n) (hm : m ≤ n) : HeapF f m := fun k h0 hk => h k h0 (by omega)
theorem heap_congr {f g : Nat → Int} {n : Nat} (h : HeapF f n) (e : ∀ k, k < n → f k = g k) : HeapF g n := fun k h0 hk => by
  rw [← e k hk, ← e _ (by omega)]; exact h k h0 hk
theorem up_congr {f g : Nat → Int} {n j : Nat} (h : UpInv f n j) (hj : j < n) (e : ∀ k, k < n → f k = g k) : UpInv g n j :=
  ⟨fun k h0 hk hne => by rw [← e k hk, ← e _ (by omega)]; exact h.1 k h0 hk hne, fun hj0 k h0 hk hp => by rw [← e k hk, ← e _ (by omega)]; exact h.2 hj0 k h0 hk hp⟩
theorem dn_congr {f g : Nat → Int} {n i0 i : Nat} (h : DnInv f n i0 i) (hj : i < n) (e : ∀ k, k < n → f k = g k) : DnInv g n i0 i :=
  ⟨fun k h0 hk hp hor => by rw [← e k hk, ← e _ (by omega)]; exact h.1 k h0 hk hp hor, fun hj0 k h0 hk hp => by rw [← e k hk, ← e _ (by omega)]; exact h.2 hj0 k h0 hk hp⟩
/-- the first one is the least -/
theorem heap_least {f : Nat → Int} {n : Nat} (h : HeapF f n) : ∀ k, k < n → f 0 ≤ f k := by
  intro k
  induction k using Nat.strongRecOn with
  | _ k ih =>
    intro hk
    by_cases h0 : k = 0
    · rw [h0]; omega
    · have a := ih ((k - 1) / 2) (by omega) (by omega)
      have b := h k (by omega) hk
      omega

/-! ### lists with two places exchanged -/
variable {α : Type}
def swapL (E : List α) (i j : Nat) : List α := match E[i]?, E[j]? with | some x, some y => (E.set i y).set j x | _, _ => E
theorem swapL_eq {E : List α} {i j : Nat} {x y : α} (hx : E[i]? = some x) (hy : E[j]? = some y) : swapL E i j = (E.set i y).set j x := by simp [swapL, hx, hy]
theorem swapL_length (E : List α) (i j : Nat) : (swapL E i j).length = E.length := by
  unfold swapL; split <;> simp
theorem swapL_j {E : List α} {i j : Nat} (hi : i < E.length) (hj : j < E.length) : (swapL E i j)[j]? = E[i]? := by
  rw [swapL_eq (List.getElem?_eq_getElem hi) (List.getElem?_eq_getElem hj)]
  simp [hi, hj]
theorem swapL_i {E : List α} {i j : Nat} (hi : i < E.length) (hj : j < E.length) : (swapL E i j)[i]? = E[j]? := by
  rw [swapL_eq (List.getElem?_eq_getElem hi) (List.getElem?_eq_getElem hj)]
  by_cases e : j = i
  · subst e; simp [hi]
  · simp [hi, hj, e]
theorem swapL_ne {E : List α} {i j k : Nat} (h1 : k ≠ i) (h2 : k ≠ j) : (swapL E i j)[k]? = E[k]? := by
  unfold swapL; split
  · simp [Ne.symm h1, Ne.symm h2]
  · rfl
theorem swapL_perm (E : List α) (i j : Nat) : (swapL E i j).Perm E := by
  unfold swapL; split
  · rename_i x y hx hy
    obtain ⟨hi, rfl⟩ := List.getElem?_eq_some_iff.1 hx
    obtain ⟨hj, rfl⟩ := List.getElem?_eq_some_iff.1 hy
    have := Array.swap_perm (xs := E.toArray) (i := i) (j := j) (by simpa using hi) (by simpa using hj)
    have := Array.perm_iff_toList_perm.1 this
    simpa [Array.swap] using this
  · exact .refl _
end Go.Proofs.YtpldkgollhbolaaGreat
namespace Go.Proofs.YtpldkgollhbolaaGreat
open Go.RowKit Go.Joins Go.Maps

theorem int_eq {k : IntKind} {a b : Int} (h : a = b) : Value.int k a = .int k b := by rw [h]
abbrev Pt (d : Nat) : Value := .pointer (some ⟨d, 0, none⟩)
/-- only the blocks of S have been written, and new ones made -/
structure Fr (S : Nat → Prop) (w w' : World) : Prop where
  os : w'.os = w.os
  tape : w'.tape = w.tape
  output : w'.output = w.output
  size : w.heap.size ≤ w'.heap.size
  block : ∀ k, k < w.heap.size → ¬ S k → w'.heap[k]? = w.heap[k]?
abbrev No : Nat → Prop := fun _ => False
theorem Fr.refl (S : Nat → Prop) (w : World) : Fr S w w := ⟨rfl, rfl, rfl, Nat.le_refl _, fun _ _ _ => rfl⟩
theorem Fr.trans {S S2 : Nat → Prop} {a b c : World} (h : Fr S a b) (k : Fr S2 b c) (hs : ∀ i, i < a.heap.size → S2 i → S i) : Fr S a c :=
  ⟨k.os.trans h.os, k.tape.trans h.tape, k.output.trans h.output, Nat.le_trans h.size k.size, fun i hi hn => (k.block i (Nat.lt_of_lt_of_le hi h.size) (fun e => hn (hs i hi e))).trans (h.block i hi hn)⟩
theorem Fr.mono {S S2 : Nat → Prop} {a b : World} (h : Fr S a b) (hs : ∀ i, i < a.heap.size → S i → S2 i) : Fr S2 a b :=
  ⟨h.os, h.tape, h.output, h.size, fun i hi hn => h.block i hi (fun e => hn (hs i hi e))⟩
theorem Fr.no {S : Nat → Prop} {a b : World} (h : Fr No a b) : Fr S a b := h.mono (fun _ _ e => e.elim)
theorem Fr.andNo {S : Nat → Prop} {a b c : World} (h : Fr S a b) (k : Fr No b c) : Fr S a c := h.trans k (fun _ _ e => e.elim)
theorem Fr.grown {a b : World} {row : Option Nat} (h : a.grownBy b row) : Fr (fun k => some k = row) a b := ⟨h.os, h.tape, h.output, h.size, h.block⟩
theorem Fr.ofBelow {a b : World} (h : Below a.heap.size a b) : Fr No a b := ⟨h.os, h.tape, h.output, h.size, fun k hk _ => h.block k hk⟩
theorem Fr.toBelow {a b : World} (h : Fr No a b) : Below a.heap.size a b := ⟨h.os, h.tape, h.output, h.size, fun k hk => h.block k hk (fun e => e)⟩
theorem Fr.below {S : Nat → Prop} {a b : World} (h : Fr S a b) {B : Nat} (hB : B ≤ a.heap.size) (hS : ∀ k, S k → B ≤ k) : Below B a b :=
  ⟨h.os, h.tape, h.output, h.size, fun k hk => h.block k (Nat.lt_of_lt_of_le hk hB) (fun e => Nat.lt_irrefl k (Nat.lt_of_lt_of_le hk (hS k e)))⟩
theorem Fr.alloc (w : World) (o : Obj) : Fr No w (w.alloc o) := ⟨rfl, rfl, rfl, by simp, fun k hk _ => Below.heap_alloc w o k hk⟩
theorem Fr.drew (w : World) : Fr No w w.drew := ⟨rfl, rfl, rfl, Nat.le_refl _, fun _ _ _ => rfl⟩
theorem Fr.drewN (w : World) (n : Nat) : Fr No w (w.drewN n) := ⟨rfl, rfl, rfl, Nat.le_refl _, fun _ _ _ => rfl⟩
theorem Fr.set (w : World) (a : Go.Addr) (u : Value) : Fr (fun k => k = a.block) w (w.setCell a u) := ⟨rfl, rfl, rfl, by simp, fun k _ hn => Below.heap_setCell w a u k hn⟩
theorem Fr.turned {a b : World} {m : Nat} (h : a.mapTurned b m) : Fr (fun k => k = m) a b := (Fr.grown h.grown).mono (fun i _ e => by simpa using e)
theorem lt_of_block {w : World} {b : Nat} {o : Obj} (h : w.heap[b]? = some o) : b < w.heap.size := (Array.getElem?_eq_some_iff.1 h).1
theorem Fr.keep {S : Nat → Prop} {a b : World} (h : Fr S a b) {k : Nat} {o : Obj} (hk : a.heap[k]? = some o) (hn : ¬ S k) : b.heap[k]? = some o := by
  rw [h.block k (lt_of_block hk) hn, hk]
theorem cell_at {w : World} {b : Nat} {cur : Array Value} {t : TypeId} {fz : Nat × Nat} (h : w.heap[b]? = some (.cells cur t fz)) (i : Nat) : w.cell? ⟨b, i, none⟩ = cur[i]? := by
  simp [World.cell?, h]
theorem free_at {w : World} {b : Nat} {cur : Array Value} {t : TypeId} (h : w.heap[b]? = some (.cells cur t (0, 0))) (i : Nat) : w.frozen? ⟨b, i, none⟩ = false := by
  simp [World.frozen?, h]
theorem set_block {w : World} {b : Nat} {cur : Array Value} {t : TypeId} {fz : Nat × Nat} (h : w.heap[b]? = some (.cells cur t fz)) (i : Nat) (v : Value) :
    (w.setCell ⟨b, i, none⟩ v).heap[b]? = some (.cells (cur.setIfInBounds i v) t fz) := by
  unfold World.setCell
  show (w.heap.modify b _)[b]? = _
  rw [Array.getElem?_modify, if_pos rfl, h]
  rfl
theorem own_fr {S : Nat → Prop} {a b : World} {base n size : Nat} {e : TypeId} {v : Value} {xs : List Value} (h : a.ownsRow base e size v n xs) (k : Fr S a b) (hn : ∀ i, v.ownBlock = some i → ¬ S i) : b.ownsRow base e size v n xs := by
  refine ⟨h.1, ?_⟩
  rcases h.2 with hn2 | ⟨g, cap, cur, rfl, h2, h3, h4⟩
  · exact Or.inl hn2
  · exact Or.inr ⟨g, cap, cur, rfl, h2, k.keep h3 (hn g rfl), h4⟩
theorem map_fr {H : Type} {S : Nat → Prop} {a b : World} {P : Program} {k : TypeId} {R : Value → Option (DataW H × List MemPlace)} {m n : Nat} {D : DataW H} (h : a.ownsMap P k R m n D) (f : Fr S a b) (hn : ¬ S m) : b.ownsMap P k R m n D := by
  obtain ⟨es, clock, hb, r⟩ := h
  exact ⟨es, clock, f.keep hb hn, r⟩
theorem map_tight {H : Type} {a : World} {P : Program} {k : TypeId} {R : Value → Option (DataW H × List MemPlace)} {m n : Nat} {D : DataW H} (h : a.ownsMap P k R m n D) : a.ownsMap P k R m (Maps.size D) D := by
  obtain ⟨es, clock, hb, F, _, rfl⟩ := h
  exact ⟨es, clock, hb, F, by simp [Maps.size, length_sorted], rfl⟩
/-- how a file's pointer is read: as the number of its block -/
def ptrElem (v : Value) : Option (DataW Unit × List MemPlace) :=
  match v with
  | .pointer none => some (.nil, [])
  | .pointer (some ⟨g, 0, none⟩) => some (.lit (.int .i64 g), [])
  | _ => none
theorem ptr_pt (g : Nat) : ptrElem (Pt g) = some (.lit (.int .i64 g), []) := rfl
theorem ptr_nil {v : Value} {ps : List MemPlace} (h : ptrElem v = some (.nil, ps)) : v = .pointer none := by
  unfold ptrElem at h
  split at h
  · rfl
  · simp at h
  · cases h
theorem ptr_lit {v : Value} {ps : List MemPlace} {g : Nat} (h : ptrElem v = some (.lit (.int .i64 g), ps)) : v = Pt g := by
  unfold ptrElem at h
  split at h
  · simp at h
  · rename_i g2
    simp at h
    have e : g2 = g := by omega
    rw [e]
  · cases h
theorem ptr_inv (v : Value) (y : DataW Unit × List MemPlace) (h : ptrElem v = some y) : ∃ c, v = Value.pointer c := by
  unfold ptrElem at h
  split at h
  · exact ⟨_, rfl⟩
  · exact ⟨_, rfl⟩
  · cases h
/-- O and what is new -/
def Gr (O : Nat → Prop) (w w' : World) : Nat → Prop := fun k => O k ∨ (w.heap.size ≤ k ∧ k < w'.heap.size)
variable {w w' w1 w2 : World} {O : Nat → Prop}
theorem gr_lt (hO : ∀ k, O k → k < w.heap.size) (hs : w.heap.size ≤ w'.heap.size) : ∀ k, Gr O w w' k → k < w'.heap.size := fun k h => by
  rcases h with h | h
  · exact Nat.lt_of_lt_of_le (hO k h) hs
  · exact h.2
theorem gr_gr (h1 : w.heap.size ≤ w1.heap.size) (h2 : w1.heap.size ≤ w2.heap.size) : ∀ k, Gr (Gr O w w1) w1 w2 k → Gr O w w2 k := fun k h => by
  rcases h with (h | h) | h
  · exact Or.inl h
  · exact Or.inr ⟨h.1, Nat.lt_of_lt_of_le h.2 h2⟩
  · exact Or.inr ⟨Nat.le_trans h1 h.1, h.2⟩
theorem fr_gr (h : Fr O w w1) (k : Fr (Gr O w w1) w1 w2) : Fr O w w2 := h.trans k (fun i hi hg => by
  rcases hg with hg | hg
  · exact hg
  · omega)
end Go.Proofs.YtpldkgollhbolaaGreat
namespace Go.Proofs.YtpldkgollhbolaaGreat
open Go.RowKit Go.Joins

def cmpL (x y : Ls) : Int := compareS x.kind x.p x.n y.kind y.p y.n
def keyB (x y : Ls) : Bool := decide (x.kind = y.kind ∧ x.p = y.p ∧ x.n = y.n)
def meetL (x y : Ls) : Bool := meetS x.kind x.p x.n y.kind y.p y.n
def ownB (x y : Ls) : Bool := decide (x.kind = y.kind ∧ x.cl = y.cl ∧ x.ia = y.ia)
def bndB (x : Ls) : Bool := decide (x.st = 1)
/-- those with another key -/
def restL (L : List Ls) (x : Ls) : List Ls := L.filter (fun y => !keyB y x)
def putL (x : Ls) : List Ls → List Ls
  | [] => [x]
  | y :: r => if cmpL x y < 0 then x :: y :: r else y :: putL x r
def thereL (L : List Ls) (x : Ls) : Bool := L.any (fun y => keyB y x)
def takenL (R : List Ls) (x : Ls) : Bool := R.any (fun y => bndB x && bndB y && ownB x y)
def clashL (R : List Ls) (x : Ls) : Bool := R.any (fun y => meetL x y)
/-- a change's error; 0: none -/
def errL (L : List Ls) (c : Ch) : Nat :=
  if changeS c = false then 80
  else if c.gone = true then (if thereL L c.l = true then 0 else 62)
  else if takenL (restL L c.l) c.l = true then 90
  else if clashL (restL L c.l) c.l = true then 91
  else if 1024 ≤ (restL L c.l).length then 63 else 0
def chgL (L : List Ls) (c : Ch) : List Ls := if c.gone = true then restL L c.l else putL c.l (restL L c.l)
def applyE : List Ls → List Ch → Nat
  | _, [] => 0
  | L, c :: cs => if errL L c = 0 then applyE (chgL L c) cs else errL L c
def applyG : List Ls → List Ch → List Ls
  | L, [] => L
  | L, c :: cs => applyG (chgL L c) cs
/-- the leases behind a list of changes -/
def applyL (L : List Ls) (cs : List Ch) : List Ls := if applyE L cs = 0 then applyG L cs else L
def Apart (x y : Ls) : Prop := meetL x y = false ∧ ¬ (bndB x = true ∧ bndB y = true ∧ ownB x y = true)
structure GoodL (L : List Ls) : Prop where
  ok : ∀ x ∈ L, x.ok ∧ leaseS x = true
  apart : L.Pairwise Apart
  size : L.length ≤ 1024
abbrev SrtL (L : List Ls) : Prop := L.Pairwise (fun x y => cmpL x y < 0)
structure TabL (L : List Ls) : Prop where
  good : GoodL L
  srt : SrtL L

theorem cmpL_neg (x y : Ls) : cmpL y x = -cmpL x y := compare_neg ..
theorem cmpL_zero {x y : Ls} : cmpL x y = 0 ↔ keyB x y = true := by unfold cmpL keyB; rw [compare_zero, decide_eq_true_iff]
theorem keyB_comm (x y : Ls) : keyB x y = keyB y x := by
  unfold keyB; rw [Bool.eq_iff_iff, decide_eq_true_iff, decide_eq_true_iff]
  exact ⟨fun ⟨a, b, c⟩ => ⟨a.symm, b.symm, c.symm⟩, fun ⟨a, b, c⟩ => ⟨a.symm, b.symm, c.symm⟩⟩
theorem keyB_self (x : Ls) : keyB x x = true := by unfold keyB; exact decide_eq_true ⟨rfl, rfl, rfl⟩
theorem keyB_trans {x y z : Ls} (h : keyB x y = true) (k : keyB y z = true) : keyB x z = true := by
  unfold keyB at *; rw [decide_eq_true_iff] at *
  exact ⟨h.1.trans k.1, h.2.1.trans k.2.1, h.2.2.trans k.2.2⟩
theorem keyB_right {x y : Ls} (h : keyB x y = true) (z : Ls) : keyB z x = keyB z y := by
  rw [Bool.eq_iff_iff]; exact ⟨fun k => keyB_trans k h, fun k => keyB_trans k (by rw [keyB_comm]; exact h)⟩
theorem cmpL_trans {x y z : Ls} (h : cmpL x y < 0) (k : cmpL y z < 0) : cmpL x z < 0 := by
  have a := compare_trans (k1 := x.kind) (p1 := x.p) (n1 := x.n) (show cmpL x y ≤ 0 by omega) (show cmpL y z ≤ 0 by omega)
  have a' : cmpL x z ≤ 0 := a
  by_cases e : cmpL x z = 0
  · have e2 : keyB z x = true := by rw [keyB_comm]; exact cmpL_zero.1 e
    have : cmpL y x = cmpL y z := by
      unfold cmpL
      unfold keyB at e2; rw [decide_eq_true_iff] at e2
      rw [e2.1, e2.2.1, e2.2.2]
    have := cmpL_neg x y
    omega
  · omega
theorem meetL_comm (x y : Ls) : meetL x y = meetL y x := meet_comm ..
theorem ownB_comm (x y : Ls) : ownB x y = ownB y x := by
  unfold ownB; rw [Bool.eq_iff_iff, decide_eq_true_iff, decide_eq_true_iff]
  exact ⟨fun ⟨a, b, c⟩ => ⟨a.symm, b.symm, c.symm⟩, fun ⟨a, b, c⟩ => ⟨a.symm, b.symm, c.symm⟩⟩
theorem meetL_key {x y : Ls} (h : keyB x y = true) (z : Ls) : meetL x z = meetL y z := by
  unfold keyB at h; rw [decide_eq_true_iff] at h
  unfold meetL; rw [h.1, h.2.1, h.2.2]
theorem lease_right {x : Ls} (h : leaseS x = true) : rightS x.kind x.p x.n = true := by
  unfold leaseS at h; simp only [Bool.and_eq_true] at h; exact h.1
theorem meetL_self {x : Ls} (h : leaseS x = true) : meetL x x = true := by unfold meetL; rw [meet_self]; exact lease_right h
theorem Apart.symm {x y : Ls} (h : Apart x y) : Apart y x := ⟨by rw [meetL_comm]; exact h.1, fun ⟨a, b, c⟩ => h.2 ⟨b, a, by rw [ownB_comm]; exact c⟩⟩
theorem Apart.key {x y : Ls} (h : Apart x y) (hx : leaseS x = true) : keyB x y = false := by
  cases e : keyB x y
  · rfl
  · have := meetL_key e x
    rw [meetL_self hx, meetL_comm, h.1] at this; cases this

theorem putL_perm (x : Ls) : ∀ L, (putL x L).Perm (x :: L)
  | [] => .refl _
  | y :: r => by
    unfold putL; split
    · exact .refl _
    · exact ((putL_perm x r).cons y).trans (.swap ..)
theorem mem_putL {x y : Ls} {L : List Ls} : y ∈ putL x L ↔ y = x ∨ y ∈ L := by rw [(putL_perm x L).mem_iff]; simp
theorem putL_srt {x : Ls} : ∀ {L : List Ls}, SrtL L → (∀ y ∈ L, keyB y x = false) → SrtL (putL x L)
  | [], _, _ => by simp [putL]
  | y :: r, h, hk => by
    obtain ⟨h1, h2⟩ := List.pairwise_cons.1 h
    unfold putL; split
    · rename_i hc
      refine List.pairwise_cons.2 ⟨fun z hz => ?_, h⟩
      rcases List.mem_cons.1 hz with rfl | hz
      · exact hc
      · exact cmpL_trans hc (h1 z hz)
    · rename_i hc
      refine List.pairwise_cons.2 ⟨fun z hz => ?_, putL_srt h2 (fun z hz => hk z (List.mem_cons_of_mem _ hz))⟩
      rcases mem_putL.1 hz with rfl | hz
      · have a := hk y List.mem_cons_self
        have b : cmpL y z ≠ 0 := fun e => by rw [cmpL_zero.1 e] at a; cases a
        have := cmpL_neg z y
        omega
      · exact h1 z hz
/-- lists in strict order with the same members are one -/
theorem srt_unique {lt : Ls → Ls → Prop} (ht : ∀ {x y}, lt x y → lt y x → False) : ∀ {L M : List Ls}, L.Perm M → L.Pairwise lt → M.Pairwise lt → L = M
  | [], M, h, _, _ => (List.nil_perm.1 h).symm
  | x :: r, [], h, _, _ => by have := h.length_eq; simp at this
  | x :: r, y :: s, h, h1, h2 => by
    obtain ⟨a1, a2⟩ := List.pairwise_cons.1 h1
    obtain ⟨b1, b2⟩ := List.pairwise_cons.1 h2
    have e : x = y := by
      have hx : x ∈ y :: s := h.mem_iff.1 List.mem_cons_self
      have hy : y ∈ x :: r := h.mem_iff.2 List.mem_cons_self
      rcases List.mem_cons.1 hx with e | hx
      · exact e
      · rcases List.mem_cons.1 hy with e | hy
        · exact e.symm
        · exact (ht (a1 y hy) (b1 x hx)).elim
    subst e
    rw [srt_unique ht ((List.perm_cons x).1 h) a2 b2]
theorem cmpL_asymm {x y : Ls} (h : cmpL x y < 0) (k : cmpL y x < 0) : False := by have := cmpL_neg x y; omega
theorem srtL_unique {L M : List Ls} (h : L.Perm M) (h1 : SrtL L) (h2 : SrtL M) : L = M := srt_unique cmpL_asymm h h1 h2

theorem apart_perm {L M : List Ls} (h : L.Perm M) : L.Pairwise Apart ↔ M.Pairwise Apart := h.pairwise_iff (fun h => h.symm)
theorem GoodL.perm {L M : List Ls} (h : GoodL L) (p : L.Perm M) : GoodL M :=
  ⟨fun x hx => h.ok x (p.mem_iff.2 hx), (apart_perm p).1 h.apart, by rw [← p.length_eq]; exact h.size⟩
theorem GoodL.sub {L M : List Ls} (h : GoodL L) (s : M.Sublist L) : GoodL M :=
  ⟨fun x hx => h.ok x (s.subset hx), h.apart.sublist s, Nat.le_trans s.length_le h.size⟩
theorem GoodL.nil : GoodL [] := ⟨by simp, .nil, by simp⟩
theorem TabL.nil : TabL [] := ⟨.nil, .nil⟩
theorem restL_sub (L : List Ls) (x : Ls) : (restL L x).Sublist L := List.filter_sublist
theorem mem_restL {L : List Ls} {x y : Ls} : y ∈ restL L x ↔ y ∈ L ∧ keyB y x = false := by
  unfold restL; rw [List.mem_filter]; simp
theorem restL_none {L : List Ls} {x : Ls} (h : thereL L x = false) : restL L x = L := by
  unfold restL; rw [List.filter_eq_self]
  intro y hy
  unfold thereL at h
  have := List.any_eq_false.1 h y hy
  simpa using this
theorem restL_key {x y : Ls} (h : keyB x y = true) (L : List Ls) : restL L x = restL L y := by
  unfold restL; congr 1; funext z; rw [keyB_right h]
theorem restL_perm {L M : List Ls} (h : L.Perm M) (x : Ls) : (restL L x).Perm (restL M x) := h.filter _
theorem thereL_perm {L M : List Ls} (h : L.Perm M) (x : Ls) : thereL L x = thereL M x := by
  unfold thereL; rw [Bool.eq_iff_iff, List.any_eq_true, List.any_eq_true]
  exact ⟨fun ⟨y, a, b⟩ => ⟨y, h.mem_iff.1 a, b⟩, fun ⟨y, a, b⟩ => ⟨y, h.mem_iff.2 a, b⟩⟩
theorem TabL.rest {L : List Ls} (h : TabL L) (x : Ls) : TabL (restL L x) := ⟨h.good.sub (restL_sub L x), h.srt.sublist (restL_sub L x)⟩
/-- of the leases with a key there is one -/
theorem rest_one : ∀ {L : List Ls}, GoodL L → ∀ {y : Ls}, y ∈ L → L.Perm (y :: restL L y)
  | x :: r, h, y, hy => by
    obtain ⟨h1, h2⟩ := List.pairwise_cons.1 h.apart
    have hg : GoodL r := h.sub (List.sublist_cons_self ..)
    rcases List.mem_cons.1 hy with rfl | hy
    · have e : restL (y :: r) y = r := by
        unfold restL; rw [List.filter_cons_of_neg (by simp [keyB_self])]
        rw [List.filter_eq_self]
        intro z hz
        have := (h1 z hz).key (h.ok y List.mem_cons_self).2
        rw [keyB_comm] at this
        simp [this]
      rw [e]
    · have e : restL (x :: r) y = x :: restL r y := by
        unfold restL
        rw [List.filter_cons_of_pos]
        have := (h1 y hy).key (h.ok x List.mem_cons_self).2
        simp [this]
      rw [e]
      exact ((rest_one hg hy).cons x).trans (.swap ..)
theorem key_unique {L : List Ls} (h : GoodL L) {x y : Ls} (hx : x ∈ L) (hy : y ∈ L) (k : keyB x y = true) : x = y := by
  have p := rest_one h hy
  rcases List.mem_cons.1 (p.mem_iff.1 hx) with e | e
  · exact e
  · have := (mem_restL.1 e).2
    rw [k] at this; cases this
theorem good_cons {L : List Ls} {x : Ls} (h : GoodL L) (hx : x.ok ∧ leaseS x = true) (ha : ∀ y ∈ L, Apart x y) (hn : L.length < 1024) : GoodL (x :: L) :=
  ⟨fun y hy => by rcases List.mem_cons.1 hy with rfl | hy; · exact hx
                  · exact h.ok y hy, List.pairwise_cons.2 ⟨ha, h.apart⟩, by simp; omega⟩
theorem any_no {α : Type} {l : List α} {p : α → Bool} (h : l.any p = false) {x : α} (hx : x ∈ l) : p x = false := by
  have := List.any_eq_false.1 h x hx; simpa using this
theorem err_zero {L : List Ls} {c : Ch} (h : errL L c = 0) : changeS c = true ∧ (c.gone = true → thereL L c.l = true) ∧ (c.gone = false → takenL (restL L c.l) c.l = false ∧ clashL (restL L c.l) c.l = false ∧ (restL L c.l).length < 1024) := by
  unfold errL at h
  by_cases h1 : changeS c = false
  · rw [if_pos h1] at h; cases h
  rw [if_neg h1] at h
  have h1 : changeS c = true := by simpa using h1
  refine ⟨h1, fun hg => ?_, fun hg => ?_⟩
  · rw [if_pos hg] at h
    by_cases h2 : thereL L c.l = true
    · exact h2
    · rw [if_neg h2] at h; cases h
  · rw [if_neg (by rw [hg]; simp)] at h
    by_cases h2 : takenL (restL L c.l) c.l = true
    · rw [if_pos h2] at h; cases h
    rw [if_neg h2] at h
    by_cases h3 : clashL (restL L c.l) c.l = true
    · rw [if_pos h3] at h; cases h
    rw [if_neg h3] at h
    by_cases h4 : 1024 ≤ (restL L c.l).length
    · rw [if_pos h4] at h; cases h
    exact ⟨by simpa using h2, by simpa using h3, by omega⟩
theorem change_lease {c : Ch} (h : changeS c = true) (hg : c.gone = false) : leaseS c.l = true := by
  unfold changeS at h; rw [hg] at h; simpa using h
theorem change_right {c : Ch} (h : changeS c = true) : rightS c.l.kind c.l.p c.l.n = true := by
  unfold changeS at h
  split at h
  · rw [Bool.and_eq_true] at h; exact h.1
  · exact lease_right h
/-- what a change that can be made leaves is a table's leases -/
theorem chg_tab {L : List Ls} {c : Ch} (h : TabL L) (ho : c.l.ok) (he : errL L c = 0) : TabL (chgL L c) := by
  obtain ⟨h1, _, h3⟩ := err_zero he
  have hr := h.rest c.l
  unfold chgL
  by_cases hg : c.gone = true
  · rw [if_pos hg]; exact hr
  · rw [if_neg hg]
    obtain ⟨a, b, d⟩ := h3 (by simpa using hg)
    refine ⟨(good_cons hr.good ⟨ho, change_lease h1 (by simpa using hg)⟩ (fun y hy => ⟨any_no b hy, fun ⟨e1, e2, e3⟩ => ?_⟩) d).perm (putL_perm ..).symm, putL_srt hr.srt (fun y hy => (mem_restL.1 hy).2)⟩
    have := any_no a hy
    simp only [e1, e2, e3] at this; cases this
/-- the change that takes another one back -/
def backL (L : List Ls) (c : Ch) : Ch := match L.find? (fun y => keyB y c.l) with | some y => ⟨false, y⟩ | none => ⟨true, ⟨c.l.kind, c.l.p, c.l.n, 0, ⟨#[]⟩, 0, 0⟩⟩
theorem find_there {L : List Ls} {x : Ls} (h : thereL L x = true) : ∃ y, L.find? (fun y => keyB y x) = some y ∧ y ∈ L ∧ keyB y x = true := by
  unfold thereL at h
  obtain ⟨z, hz, hk⟩ := List.any_eq_true.1 h
  cases e : L.find? (fun y => keyB y x) with
  | none => have := List.find?_eq_none.1 e z hz; rw [hk] at this; simp at this
  | some y => exact ⟨y, rfl, List.mem_of_find?_eq_some e, by have := List.find?_some e; simpa using this⟩
theorem find_not {L : List Ls} {x : Ls} (h : thereL L x = false) : L.find? (fun y => keyB y x) = none := by
  rw [List.find?_eq_none]; intro y hy; have := any_no h hy; rw [this]; simp
theorem rest_put {L : List Ls} {x y : Ls} (hx : keyB x y = true) (hL : ∀ z ∈ L, keyB z y = false) : (restL (putL x L) y).Perm L := by
  have := restL_perm (putL_perm x L) y
  have e : restL (x :: L) y = L := by
    unfold restL; rw [List.filter_cons_of_neg (by simp [hx]), List.filter_eq_self]
    intro z hz; simp [hL z hz]
  rw [e] at this; exact this
theorem back_there {L : List Ls} {c : Ch} (h : TabL L) {y : Ls} (hy : y ∈ L) (hk : keyB y c.l = true) : chgL (chgL L c) ⟨false, y⟩ = L := by
  have hkr : restL L c.l = restL L y := (restL_key hk L).symm
  have hr := h.rest y
  have hno : ∀ z ∈ restL L y, keyB z y = false := fun z hz => (mem_restL.1 hz).2
  have hp : (restL (chgL L c) y).Perm (restL L y) := by
    unfold chgL
    by_cases hg : c.gone = true
    · rw [if_pos hg, hkr]
      have : restL (restL L y) y = restL L y := by
        rw [restL, List.filter_eq_self]; intro z hz; simp [hno z hz]
      rw [this]
    · rw [if_neg hg, hkr]
      exact rest_put (by rw [keyB_comm]; exact hk) hno
  unfold chgL
  rw [if_neg (by simp)]
  show putL y (restL (chgL L c) y) = L
  have hs : SrtL (restL (chgL L c) y) := by
    unfold chgL
    by_cases hg : c.gone = true
    · rw [if_pos hg]; exact ((h.rest _).srt).sublist (restL_sub _ _)
    · rw [if_neg hg]; exact (putL_srt (h.rest _).srt (fun z hz => (mem_restL.1 hz).2)).sublist (restL_sub _ _)
  refine srtL_unique (((putL_perm ..).trans (hp.cons y)).trans (rest_one h.good hy).symm) (putL_srt hs (fun z hz => (mem_restL.1 hz).2)) h.srt
theorem back_chg {L : List Ls} {c : Ch} (h : TabL L) (he : errL L c = 0) : chgL (chgL L c) (backL L c) = L := by
  obtain ⟨_, h2, _⟩ := err_zero he
  by_cases ht : thereL L c.l = true
  · obtain ⟨y, hf, hy, hk⟩ := find_there ht
    unfold backL; rw [hf]
    exact back_there h hy hk
  · have ht : thereL L c.l = false := by simpa using ht
    have hg : c.gone = false := by
      cases e : c.gone
      · rfl
      · have := h2 e; rw [ht] at this; cases this
    unfold backL; rw [find_not ht]
    unfold chgL
    rw [if_pos rfl, if_neg (by rw [hg]; simp), restL_none ht]
    have hk : keyB c.l ⟨c.l.kind, c.l.p, c.l.n, 0, ⟨#[]⟩, 0, 0⟩ = true := by unfold keyB; exact decide_eq_true ⟨rfl, rfl, rfl⟩
    have hno : ∀ z ∈ L, keyB z ⟨c.l.kind, c.l.p, c.l.n, 0, ⟨#[]⟩, 0, 0⟩ = false := fun z hz => by rw [← keyB_right hk]; exact any_no ht hz
    refine srtL_unique (rest_put hk hno) ?_ h.srt
    exact (putL_srt h.srt (fun z hz => any_no ht hz)).sublist (restL_sub _ _)
theorem back_ok {L : List Ls} {c : Ch} (h : TabL L) (ho : c.l.ok) : (backL L c).l.ok ∧ ((backL L c).gone = false → leaseS (backL L c).l = true) := by
  unfold backL
  cases e : L.find? (fun y => keyB y c.l) with
  | none => exact ⟨⟨ho.kind, ho.p, ho.n, (by unfold I64; decide : I64 0), (by decide : (⟨#[]⟩ : ByteArray).size ≤ maxLen), (by decide : 0 < 4294967296), (by unfold I64; decide : I64 0)⟩, fun h => by cases h⟩
  | some y => exact ⟨(h.good.ok y (List.mem_of_find?_eq_some e)).1, fun _ => (h.good.ok y (List.mem_of_find?_eq_some e)).2⟩
/-- a change's error as the program finds it -/
def chkL (L : List Ls) (c : Ch) : Nat :=
  if changeS c = false then 80
  else if c.gone = true then (if thereL L c.l = true then 0 else 62)
  else if L.any (fun y => bndB y && ownB c.l y && !keyB y c.l) = true then 90
  else if thereL L c.l = true then 0
  else if clashL L c.l = true then 91
  else if 1024 ≤ L.length then 63 else 0
theorem bound_cl {x : Ls} (h : leaseS x = true) : (x.st = 1 → x.cl.size ≠ 0) ∧ (x.st ≠ 1 → x.cl.size = 0) := by
  unfold leaseS at h
  simp only [Bool.and_eq_true] at h
  have h := h.2.2
  unfold stateS at h
  refine ⟨fun e => ?_, fun e => ?_⟩
  · rw [if_pos e, decide_eq_true_iff] at h; exact h.1
  · rw [if_neg e] at h
    split at h
    · rw [decide_eq_true_iff] at h; exact h.1
    · cases h
theorem taken_eq {L : List Ls} {x : Ls} (h : GoodL L) (hx : leaseS x = true) : L.any (fun y => bndB y && ownB x y && !keyB y x) = takenL (restL L x) x := by
  unfold takenL
  rw [Bool.eq_iff_iff, List.any_eq_true, List.any_eq_true]
  constructor
  · rintro ⟨y, hy, hb⟩
    simp only [Bool.and_eq_true, Bool.not_eq_true'] at hb
    obtain ⟨⟨b1, b2⟩, b3⟩ := hb
    refine ⟨y, mem_restL.2 ⟨hy, b3⟩, ?_⟩
    have hx1 : bndB x = true := by
      unfold bndB; rw [decide_eq_true_iff]
      refine Classical.byContradiction fun hn => ?_
      have a := (bound_cl hx).2 hn
      unfold bndB at b1; rw [decide_eq_true_iff] at b1
      have b := (bound_cl (h.ok y hy).2).1 b1
      unfold ownB at b2; rw [decide_eq_true_iff] at b2
      rw [← b2.2.1] at b; exact b a
    simp [hx1, b1, b2]
  · rintro ⟨y, hy, hb⟩
    simp only [Bool.and_eq_true] at hb
    obtain ⟨hy, hk⟩ := mem_restL.1 hy
    exact ⟨y, hy, by simp [hb.1.2, hb.2, hk]⟩
theorem chk_eq {L : List Ls} {c : Ch} (h : TabL L) : chkL L c = errL L c := by
  unfold chkL errL
  by_cases h1 : changeS c = false
  · rw [if_pos h1, if_pos h1]
  rw [if_neg h1, if_neg h1]
  have h1 : changeS c = true := by simpa using h1
  by_cases hg : c.gone = true
  · rw [if_pos hg, if_pos hg]
  rw [if_neg hg, if_neg hg, taken_eq h.good (change_lease h1 (by simpa using hg))]
  by_cases h2 : takenL (restL L c.l) c.l = true
  · rw [if_pos h2, if_pos h2]
  rw [if_neg h2, if_neg h2]
  by_cases ht : thereL L c.l = true
  · rw [if_pos ht]
    obtain ⟨y, _, hy, hk⟩ := find_there ht
    have hp := rest_one h.good hy
    have e := restL_key hk L
    rw [e] at hp
    have hcl : clashL (restL L c.l) c.l = false := by
      unfold clashL; rw [List.any_eq_false]
      intro z hz
      have ha := (List.pairwise_cons.1 ((apart_perm hp).1 h.good.apart)).1 z hz
      rw [← meetL_key hk, ha.1]; simp
    have hl : (restL L c.l).length < 1024 := by
      have := hp.length_eq; have := h.good.size; simp at *; omega
    rw [hcl, if_neg (by simp), if_neg (by omega)]
  · rw [if_neg ht, restL_none (by simpa using ht)]
theorem apply_tab : ∀ (cs : List Ch) {L : List Ls}, TabL L → (∀ c ∈ cs, c.l.ok) → applyE L cs = 0 → TabL (applyG L cs)
  | [], L, h, _, _ => h
  | c :: cs, L, h, ho, he => by
    unfold applyE at he
    by_cases h0 : errL L c = 0
    · rw [if_pos h0] at he
      exact apply_tab cs (chg_tab h (ho c List.mem_cons_self) h0) (fun x hx => ho x (List.mem_cons_of_mem _ hx)) he
    · rw [if_neg h0] at he; exact absurd he h0
theorem applyL_tab {cs : List Ch} {L : List Ls} (h : TabL L) (ho : ∀ c ∈ cs, c.l.ok) : TabL (applyL L cs) := by
  unfold applyL; split
  · exact apply_tab cs h ho (by assumption)
  · exact h
end Go.Proofs.YtpldkgollhbolaaGreat
