/-
  What it means that memory holds a disk; what stays of it while other memory is written. No condition beyond those in each theorem's own statement.
-/
import Derived.Test.YtnaedngbcndakaaProg
import Derived.Test.YtnaedngbcndakaaFilM
import Derived.WalkKit
import Derived.WalkSpells
import Derived.WalkLawsBesides
import Derived.RegionTactic
import Derived.ChangeAlike
import Derived.Lib.Strings
import Derived.Lib.Hide
import Derived.Lib.AppendStr
import Derived.ProofKit
import Derived.BigQuiet
import Derived.Deep.QuietTactic
import Derived.Laws.CopyOwn
import Derived.Laws.IdiomStrings
import Derived.Maps.OwnSet
import Derived.Maps.RangeWalk
import Derived.IntWalk
namespace Go.Proofs.Ytnaedngbcndakaa
open Go.RowKit Go.Maps

theorem hide {p : Prop} (h : p) : Hid p := h
/-- a call with this one result, nothing touched at all -/
def Same (v : Value) (w : World) (e : Ending) (w' : World) : Prop := e = .returned v ∧ w = w'
theorem bool_eq {a b : Bool} (h : a = b) : Value.bool a = .bool b := by rw [h]
theorem int_eq {k : IntKind} {a b : Int} (h : a = b) : Value.int k a = .int k b := by rw [h]
theorem tup2 {x x' y y' : Value} (h : x = x') (k : y = y') : Value.tuple #[x, y] = .tuple #[x', y'] := by rw [h, k]
/-- a text of bytes -/
abbrev St (l : List UInt8) : Value := .string ⟨l.toArray⟩
theorem st_size (l : List UInt8) : (⟨l.toArray⟩ : ByteArray).size = l.length := by simp [ByteArray.size]
abbrev I64 (a : Int) : Prop := -9223372036854775808 ≤ a ∧ a ≤ 9223372036854775807
theorem infoB : (Try.prog.info? 5).map (fun i => (i.zero, i.size, i.bytes)) = some (some (.int .u8 0), 1, 1) := by kernel_rfl
def byteV (b : UInt8) : Value := .int .u8 (b.toNat : Int)
abbrev Pt (d : Nat) : Value := .pointer (some ⟨d, 0, none⟩)

/-! ### what stays -/
/-- only the blocks of S have been written, and new ones made -/
structure Fr (S : Nat → Prop) (w w' : World) : Prop where
  os : w'.os = w.os
  tape : w'.tape = w.tape
  output : w'.output = w.output
  size : w.heap.size ≤ w'.heap.size
  block : ∀ k, k < w.heap.size → ¬ S k → w'.heap[k]? = w.heap[k]?
abbrev No : Nat → Prop := fun _ => False
theorem Fr.refl (S : Nat → Prop) (w : World) : Fr S w w := ⟨rfl, rfl, rfl, Nat.le_refl _, fun _ _ _ => rfl⟩
theorem Fr.trans {S S2 : Nat → Prop} {a b c : World} (h : Fr S a b) (k : Fr S2 b c) (hs : ∀ i, i < a.heap.size → S2 i → S i) : Fr S a c :=
  ⟨k.os.trans h.os, k.tape.trans h.tape, k.output.trans h.output, Nat.le_trans h.size k.size, fun i hi hn => (k.block i (Nat.lt_of_lt_of_le hi h.size) (fun e => hn (hs i hi e))).trans (h.block i hi hn)⟩
theorem Fr.mono {S S2 : Nat → Prop} {a b : World} (h : Fr S a b) (hs : ∀ i, i < a.heap.size → S i → S2 i) : Fr S2 a b :=
  ⟨h.os, h.tape, h.output, h.size, fun i hi hn => h.block i hi (fun e => hn (hs i hi e))⟩
theorem Fr.no {S : Nat → Prop} {a b : World} (h : Fr No a b) : Fr S a b := h.mono (fun _ _ e => e.elim)
theorem Fr.andNo {S : Nat → Prop} {a b c : World} (h : Fr S a b) (k : Fr No b c) : Fr S a c := h.trans k (fun _ _ e => e.elim)
theorem Fr.grown {a b : World} {row : Option Nat} (h : a.grownBy b row) : Fr (fun k => some k = row) a b := ⟨h.os, h.tape, h.output, h.size, h.block⟩
theorem Fr.ofBelow {a b : World} (h : Below a.heap.size a b) : Fr No a b := ⟨h.os, h.tape, h.output, h.size, fun k hk _ => h.block k hk⟩
theorem Fr.toBelow {a b : World} (h : Fr No a b) : Below a.heap.size a b := ⟨h.os, h.tape, h.output, h.size, fun k hk => h.block k hk (fun e => e)⟩
theorem Fr.below {S : Nat → Prop} {a b : World} (h : Fr S a b) {B : Nat} (hB : B ≤ a.heap.size) (hS : ∀ k, S k → B ≤ k) : Below B a b :=
  ⟨h.os, h.tape, h.output, h.size, fun k hk => h.block k (Nat.lt_of_lt_of_le hk hB) (fun e => Nat.lt_irrefl k (Nat.lt_of_lt_of_le hk (hS k e)))⟩
theorem Fr.alloc (w : World) (o : Obj) : Fr No w (w.alloc o) := ⟨rfl, rfl, rfl, by simp, fun k hk _ => Below.heap_alloc w o k hk⟩
theorem Fr.drew (w : World) : Fr No w w.drew := ⟨rfl, rfl, rfl, Nat.le_refl _, fun _ _ _ => rfl⟩
theorem Fr.drewN (w : World) (n : Nat) : Fr No w (w.drewN n) := ⟨rfl, rfl, rfl, Nat.le_refl _, fun _ _ _ => rfl⟩
theorem Fr.set (w : World) (a : Go.Addr) (u : Value) : Fr (fun k => k = a.block) w (w.setCell a u) := ⟨rfl, rfl, rfl, by simp, fun k _ hn => Below.heap_setCell w a u k hn⟩
theorem Fr.turned {a b : World} {m : Nat} (h : a.mapTurned b m) : Fr (fun k => k = m) a b := (Fr.grown h.grown).mono (fun i _ e => by simpa using e)

theorem lt_of_block {w : World} {b : Nat} {o : Obj} (h : w.heap[b]? = some o) : b < w.heap.size := (Array.getElem?_eq_some_iff.1 h).1
theorem Fr.keep {S : Nat → Prop} {a b : World} (h : Fr S a b) {k : Nat} {o : Obj} (hk : a.heap[k]? = some o) (hn : ¬ S k) : b.heap[k]? = some o := by
  rw [h.block k (lt_of_block hk) hn, hk]
theorem cell_at {w : World} {b : Nat} {cur : Array Value} {t : TypeId} {fz : Nat × Nat} (h : w.heap[b]? = some (.cells cur t fz)) (i : Nat) : w.cell? ⟨b, i, none⟩ = cur[i]? := by
  simp [World.cell?, h]
theorem free_at {w : World} {b : Nat} {cur : Array Value} {t : TypeId} (h : w.heap[b]? = some (.cells cur t (0, 0))) (i : Nat) : w.frozen? ⟨b, i, none⟩ = false := by
  simp [World.frozen?, h]
theorem set_block {w : World} {b : Nat} {cur : Array Value} {t : TypeId} {fz : Nat × Nat} (h : w.heap[b]? = some (.cells cur t fz)) (i : Nat) (v : Value) :
    (w.setCell ⟨b, i, none⟩ v).heap[b]? = some (.cells (cur.setIfInBounds i v) t fz) := by
  unfold World.setCell
  show (w.heap.modify b _)[b]? = _
  rw [Array.getElem?_modify, if_pos rfl, h]
  rfl
theorem own_fr {S : Nat → Prop} {a b : World} {base n size : Nat} {e : TypeId} {v : Value} {xs : List Value} (h : a.ownsRow base e size v n xs) (k : Fr S a b) (hn : ∀ i, v.ownBlock = some i → ¬ S i) : b.ownsRow base e size v n xs := by
  refine ⟨h.1, ?_⟩
  rcases h.2 with hn2 | ⟨g, cap, cur, rfl, h2, h3, h4⟩
  · exact Or.inl hn2
  · exact Or.inr ⟨g, cap, cur, rfl, h2, k.keep h3 (hn g rfl), h4⟩
theorem map_fr {H : Type} {S : Nat → Prop} {a b : World} {P : Program} {k : TypeId} {R : Value → Option (DataW H × List MemPlace)} {m n : Nat} {D : DataW H} (h : a.ownsMap P k R m n D) (f : Fr S a b) (hn : ¬ S m) : b.ownsMap P k R m n D := by
  obtain ⟨es, clock, hb, r⟩ := h
  exact ⟨es, clock, f.keep hb hn, r⟩
theorem map_tight {H : Type} {a : World} {P : Program} {k : TypeId} {R : Value → Option (DataW H × List MemPlace)} {m n : Nat} {D : DataW H} (h : a.ownsMap P k R m n D) : a.ownsMap P k R m (Maps.size D) D := by
  obtain ⟨es, clock, hb, F, _, rfl⟩ := h
  exact ⟨es, clock, hb, F, by simp [Maps.size, length_sorted], rfl⟩
theorem ranges_fr {H : Type} {S : Nat → Prop} {a b : World} {P : Program} {k : TypeId} {R : Value → Option (DataW H × List MemPlace)} {m r n : Nat} {D : DataW H} {left : Lit → Bool} {cnt : Nat} (h : a.ranges P k R m r n D left cnt) (f : Fr S a b) (h1 : ¬ S m) (h2 : ¬ S r) : b.ranges P k R m r n D left cnt := by
  obtain ⟨es, clock, since, seen, c0, hb, F, hs, hD, hr, rest⟩ := h
  exact ⟨es, clock, since, seen, c0, f.keep hb h1, F, hs, hD, f.keep hr h2, rest⟩

/-! ### a disk in memory -/
/-- how a file's pointer is read: as the number of its block -/
def ptrElem (v : Value) : Option (DataW Unit × List MemPlace) :=
  match v with
  | .pointer none => some (.nil, [])
  | .pointer (some ⟨g, 0, none⟩) => some (.lit (.int .i64 g), [])
  | _ => none
theorem ptr_pt (g : Nat) : ptrElem (Pt g) = some (.lit (.int .i64 g), []) := rfl
theorem ptr_nil {v : Value} {ps : List MemPlace} (h : ptrElem v = some (.nil, ps)) : v = .pointer none := by
  unfold ptrElem at h
  split at h
  · rfl
  · simp at h
  · cases h
theorem ptr_lit {v : Value} {ps : List MemPlace} {g : Nat} (h : ptrElem v = some (.lit (.int .i64 g), ps)) : v = Pt g := by
  unfold ptrElem at h
  split at h
  · simp at h
  · rename_i g2
    simp at h
    have e : g2 = g := by omega
    rw [e]
  · cases h
theorem ptr_inv (v : Value) (y : DataW Unit × List MemPlace) (h : ptrElem v = some y) : ∃ c, v = Value.pointer c := by
  unfold ptrElem at h
  split at h
  · exact ⟨_, rfl⟩
  · exact ⟨_, rfl⟩
  · cases h
abbrev OM (w : World) (m n : Nat) (D : DataW Unit) : Prop := w.ownsMap Try.prog 9 ptrElem m n D
theorem KS : Keyed Try.prog 9 := string_keyed Try.underlying9
theorem key_st {l : Nm} (h : l.length ≤ maxLen) : keyOf Try.prog 9 (St l) = some (.string l) := by
  simp [keyOf, mapKey, Try.underlying9, ByteArray.size, h]
theorem isKey_st (l : Nm) (h : l.length ≤ maxLen) : WideAt.IsKeyLit (.string l) := KS.key (key_st h)

/-- a file in memory: its block, the value of its bytes -/
def FileAt (w : World) (g : Nat) (v : Value) (f : Fl) : Prop :=
  w.heap[g]? = some (.cells #[v, .int .i64 (f.safe : Nat)] 83 (0, 0)) ∧ w.ownsRow 0 5 1 v f.data.length (f.data.map byteV)
theorem FileAt.fr {S : Nat → Prop} {a b : World} {g : Nat} {v : Value} {f : Fl} (h : FileAt a g v f) (k : Fr S a b) (h1 : ¬ S g) (h2 : ∀ i, v.ownBlock = some i → ¬ S i) : FileAt b g v f :=
  ⟨k.keep h.1 h1, own_fr h.2 k h2⟩
theorem FileAt.row {w : World} {g : Nat} {v : Value} {f : Fl} (h : FileAt w g v f) {i : Nat} (hi : v.ownBlock = some i) : ∃ cur, w.heap[i]? = some (.cells cur 5 (0, 0)) := by
  rcases h.2.2 with ⟨rfl, _⟩ | ⟨g, cap, cur, rfl, h2, h3, h4⟩
  · cases hi
  · cases hi
    exact ⟨cur, h3⟩
/-- the disk's own cells -/
def DiskAt (w : World) (d m : Nat) (s : Dk) (l : Int) : Prop :=
  w.heap[d]? = some (.cells #[.map (some m), .bool s.down, .int .i64 l, .int .i64 s.keep, .int .i64 (s.steps : Nat)] 72 (0, 0)) ∧ (l = s.left ∨ (l < 0 ∧ s.left = -1)) ∧ I64 l
structure Dsk (w : World) (d m : Nat) (O : Nat → Prop) (D : DataW Unit) (fb : Nm → Nat) (sv : Nm → Value) (s : Dk) : Prop where
  ok : DkOk s
  disk : ∃ l : Int, DiskAt w d m s l
  map : OM w m (Maps.size D) D
  keys : ∀ x, Maps.has D (.string x) = (find s.fs x).isSome
  file : ∀ x f, find s.fs x = some f → (∀ z, D.atKey (.string x) z = .lit (.int .i64 (fb x))) ∧ FileAt w (fb x) (sv x) f
  inj : ∀ x y, (find s.fs x).isSome = true → (find s.fs y).isSome = true → x ≠ y → fb x ≠ fb y ∧ ∀ k, (sv x).ownBlock = some k → (sv y).ownBlock ≠ some k
  own : O d ∧ O m ∧ ∀ x, (find s.fs x).isSome = true → O (fb x) ∧ ∀ k, (sv x).ownBlock = some k → O k
  lt : ∀ k, O k → k < w.heap.size
/-- memory holds the disk s at block d; all that is its own lies in O -/
def IsDsk (w : World) (d : Nat) (O : Nat → Prop) (s : Dk) : Prop := ∃ m D fb sv, Dsk w d m O D fb sv s
/-- O and what is new -/
def Gr (O : Nat → Prop) (w w' : World) : Nat → Prop := fun k => O k ∨ (w.heap.size ≤ k ∧ k < w'.heap.size)
/-- a call on a disk: what it answers, the disk behind it -/
def Acts (w : World) (d : Nat) (O : Nat → Prop) (v : Value) (s' : Dk) (e : Ending) (w' : World) : Prop := e = .returned v ∧ Fr O w w' ∧ IsDsk w' d (Gr O w w') s'
/-- a call that changes nothing -/
def Tells (w : World) (v : Value) (e : Ending) (w' : World) : Prop := e = .returned v ∧ Fr No w w'

variable {w w' w1 w2 : World} {d m : Nat} {O : Nat → Prop} {D : DataW Unit} {fb : Nm → Nat} {sv : Nm → Value} {s s' : Dk}
theorem gr_lt (hO : ∀ k, O k → k < w.heap.size) (hs : w.heap.size ≤ w'.heap.size) : ∀ k, Gr O w w' k → k < w'.heap.size := fun k h => by
  rcases h with h | h
  · exact Nat.lt_of_lt_of_le (hO k h) hs
  · exact h.2
theorem gr_gr (h1 : w.heap.size ≤ w1.heap.size) (h2 : w1.heap.size ≤ w2.heap.size) : ∀ k, Gr (Gr O w w1) w1 w2 k → Gr O w w2 k := fun k h => by
  rcases h with (h | h) | h
  · exact Or.inl h
  · exact Or.inr ⟨h.1, Nat.lt_of_lt_of_le h.2 h2⟩
  · exact Or.inr ⟨Nat.le_trans h1 h.1, h.2⟩
theorem fr_gr (h : Fr O w w1) (k : Fr (Gr O w w1) w1 w2) : Fr O w w2 := h.trans k (fun i hi hg => by
  rcases hg with hg | hg
  · exact hg
  · omega)
theorem Dsk.wider (h : Dsk w d m O D fb sv s) {O' : Nat → Prop} (h1 : ∀ k, O k → O' k) (h2 : ∀ k, O' k → k < w.heap.size) : Dsk w d m O' D fb sv s :=
  ⟨h.ok, h.disk, h.map, h.keys, h.file, h.inj, ⟨h1 _ h.own.1, h1 _ h.own.2.1, fun x hx => ⟨h1 _ (h.own.2.2 x hx).1, fun k hk => h1 _ ((h.own.2.2 x hx).2 k hk)⟩⟩, h2⟩
theorem IsDsk.wider (h : IsDsk w d O s) {O' : Nat → Prop} (h1 : ∀ k, O k → O' k) (h2 : ∀ k, O' k → k < w.heap.size) : IsDsk w d O' s := by
  obtain ⟨m, D, fb, sv, h⟩ := h
  exact ⟨m, D, fb, sv, h.wider h1 h2⟩
theorem Dsk.fr (h : Dsk w d m O D fb sv s) {S : Nat → Prop} (k : Fr S w w') (hS : ∀ i, O i → ¬ S i) : Dsk w' d m O D fb sv s := by
  obtain ⟨l, h1, h2⟩ := h.disk
  exact ⟨h.ok, ⟨l, k.keep h1 (hS d h.own.1), h2⟩, map_fr h.map k (hS m h.own.2.1), h.keys,
    fun x f hf => ⟨(h.file x f hf).1, (h.file x f hf).2.fr k (hS _ (h.own.2.2 x (by rw [hf]; rfl)).1) (fun i hi => hS i ((h.own.2.2 x (by rw [hf]; rfl)).2 i hi))⟩, h.inj, h.own, fun i hi => Nat.lt_of_lt_of_le (h.lt i hi) k.size⟩
theorem IsDsk.fr (h : IsDsk w d O s) {S : Nat → Prop} (k : Fr S w w') (hS : ∀ i, O i → ¬ S i) : IsDsk w' d O s := by
  obtain ⟨m, D, fb, sv, h⟩ := h
  exact ⟨m, D, fb, sv, h.fr k hS⟩
theorem Dsk.no (h : Dsk w d m O D fb sv s) (k : Fr No w w') : Dsk w' d m O D fb sv s := h.fr k (fun _ _ e => e)
theorem IsDsk.no (h : IsDsk w d O s) (k : Fr No w w') : IsDsk w' d O s := h.fr k (fun _ _ e => e)
theorem IsDsk.lt (h : IsDsk w d O s) : ∀ k, O k → k < w.heap.size := by
  obtain ⟨m, D, fb, sv, h⟩ := h
  exact h.lt
theorem IsDsk.ok (h : IsDsk w d O s) : DkOk s := by
  obtain ⟨m, D, fb, sv, h⟩ := h
  exact h.ok
theorem IsDsk.gr (h : IsDsk w d O s) (hs : w.heap.size ≤ w'.heap.size) (k : IsDsk w' d O s) : IsDsk w' d (Gr O w w') s := k.wider (fun _ e => Or.inl e) (gr_lt h.lt hs)
theorem Dsk.size (h : Dsk w d m O D fb sv s) : Maps.size D = s.fs.length := by
  obtain ⟨es, hD, hpw, _⟩ := h.map.entries KS
  obtain ⟨es', hD', hko⟩ := h.map.keysOf
  obtain rfl : es = es' := by rw [hD] at hD'; simpa using hD'
  have hp := perm_strKeys hpw (fun p hp => by obtain ⟨v, hv⟩ := hko p hp; obtain ⟨x, _, hx, _⟩ := Maps.keyOf_str Try.underlying9 hv; exact ⟨x, hx⟩) (names_nodup h.ok.srt) (fun x => by rw [mem_names, ← hD, h.keys])
  have := hp.length_eq
  rw [hD]
  simp [strKeys, names] at this
  exact this.symm
theorem Dsk.nm_le (h : Dsk w d m O D fb sv s) {x : Nm} (hx : (find s.fs x).isSome = true) : x.length ≤ 32 := by
  obtain ⟨f, hf⟩ := Option.isSome_iff_exists.1 hx
  have := (h.ok.ok f (find_mem hf)).2.2
  rwa [find_name hf] at this
/-- what is no file's: the disk's own block and the map's -/
theorem Dsk.apart (h : Dsk w d m O D fb sv s) {x : Nm} {f : Fl} (hf : find s.fs x = some f) : d ≠ fb x ∧ m ≠ fb x ∧ (∀ k, (sv x).ownBlock = some k → d ≠ k ∧ m ≠ k) ∧ ∀ y g, find s.fs y = some g → ∀ k, (sv y).ownBlock = some k → fb x ≠ k := by
  obtain ⟨l, h1, _⟩ := h.disk
  obtain ⟨es, clock, h2, _⟩ := h.map
  have h3 := (h.file x f hf).2.1
  refine ⟨fun e => ?_, fun e => ?_, fun k hk => ?_, fun y g hg k hk e => ?_⟩
  · rw [e, h3] at h1; simp at h1
  · rw [e, h3] at h2; simp at h2
  · obtain ⟨cur, h4⟩ := (h.file x f hf).2.row hk
    refine ⟨fun e => ?_, fun e => ?_⟩
    · rw [e, h4] at h1; simp at h1
    · rw [e, h4] at h2; simp at h2
  · obtain ⟨cur, h4⟩ := (h.file y g hg).2.row hk
    rw [e, h4] at h3; simp at h3
theorem Dsk.dm (h : Dsk w d m O D fb sv s) : d ≠ m := fun e => by
  obtain ⟨l, h1, _⟩ := h.disk
  obtain ⟨es, clock, h2, _⟩ := h.map
  rw [e, h2] at h1
  simp at h1

/-! ### what becomes of a disk -/
def upd {α : Type} (f : Nm → α) (x : Nm) (a : α) : Nm → α := fun y => if y = x then a else f y
theorem upd_same {α : Type} (f : Nm → α) (x : Nm) (a : α) : upd f x a x = a := by simp [upd]
theorem upd_other {α : Type} (f : Nm → α) {x y : Nm} (a : α) (h : y ≠ x) : upd f x a y = f y := by simp [upd, h]
/-- one file is written -/
theorem Dsk.refileO (h : Dsk w d m O D fb sv s) {x : Nm} {f f' : Fl} (hf : find s.fs x = some f) {S : Nat → Prop} (k : Fr S w w') (hS : ∀ i, O i → S i → i = fb x ∨ (sv x).ownBlock = some i) {v' : Value}
    (hF : FileAt w' (fb x) v' f') (hn : f'.name = x) (hok : FlOk f') (hv : ∀ i, v'.ownBlock = some i → (sv x).ownBlock = some i ∨ w.heap.size ≤ i) {O' : Nat → Prop} (hO : ∀ i, O i → O' i) (hv2 : ∀ i, v'.ownBlock = some i → O' i) (hO' : ∀ i, O' i → i < w'.heap.size) :
    Dsk w' d m O' D fb (upd sv x v') { s with fs := putF f' s.fs } := by
  obtain ⟨a1, a2, a3, a4⟩ := h.apart hf
  have hx : (find s.fs x).isSome = true := by rw [hf]; rfl
  have hd : ¬ S d := fun e => by
    rcases hS d h.own.1 e with e | e
    · exact a1 e
    · exact (a3 d e).1 rfl
  have hm : ¬ S m := fun e => by
    rcases hS m h.own.2.1 e with e | e
    · exact a2 e
    · exact (a3 m e).2 rfl
  have hsome : ∀ y, (find (putF f' s.fs) y).isSome = (find s.fs y).isSome := fun y => by
    rw [find_put h.ok.srt, hn]
    by_cases e : x = y
    · subst e; simp [hf]
    · rw [if_neg e]
  have other : ∀ y g, find s.fs y = some g → y ≠ x → FileAt w' (fb y) (sv y) g := fun y g hg hne => by
    have hy : (find s.fs y).isSome = true := by rw [hg]; rfl
    obtain ⟨i1, i2⟩ := h.inj y x hy hx hne
    obtain ⟨_, _, _, b4⟩ := h.apart hg
    refine (h.file y g hg).2.fr k (fun e => ?_) (fun i hi e => ?_)
    · rcases hS _ (h.own.2.2 y hy).1 e with e | e
      · exact i1 e
      · exact b4 x f hf _ e rfl
    · rcases hS i ((h.own.2.2 y hy).2 i hi) e with e | e
      · exact a4 y g hg i hi e.symm
      · exact i2 i hi e
  obtain ⟨l, d1, d2⟩ := h.disk
  have hlt := h.lt
  refine ⟨h.ok.put hok (Or.inl (by rw [hn]; exact hx)), ⟨l, k.keep d1 hd, d2⟩, map_fr h.map k hm, fun y => by rw [h.keys, hsome], fun y g hg => ?_, fun y z hy hz hne => ?_, ⟨hO _ h.own.1, hO _ h.own.2.1, fun y hy => ?_⟩, hO'⟩
  · rw [find_put h.ok.srt, hn] at hg
    by_cases e : x = y
    · subst e
      rw [if_pos rfl] at hg
      cases hg
      rw [upd_same]
      exact ⟨(h.file x f hf).1, hF⟩
    · rw [if_neg e] at hg
      rw [upd_other sv v' (fun e2 => e e2.symm)]
      exact ⟨(h.file y g hg).1, other y g hg (fun e2 => e e2.symm)⟩
  · rw [hsome] at hy hz
    refine ⟨(h.inj y z hy hz hne).1, fun i hi e => ?_⟩
    by_cases ey : y = x
    · subst ey
      rw [upd_same] at hi
      rw [upd_other sv v' (fun e2 => hne e2.symm)] at e
      rcases hv i hi with k1 | k1
      · exact (h.inj y z hy hz hne).2 i k1 e
      · have := hlt i ((h.own.2.2 z hz).2 i e); omega
    · rw [upd_other sv v' ey] at hi
      by_cases ez : z = x
      · subst ez
        rw [upd_same] at e
        rcases hv i e with k1 | k1
        · exact (h.inj y z hy hz hne).2 i hi k1
        · have := hlt i ((h.own.2.2 y hy).2 i hi); omega
      · rw [upd_other sv v' ez] at e
        exact (h.inj y z hy hz hne).2 i hi e
  · rw [hsome] at hy
    refine ⟨hO _ (h.own.2.2 y hy).1, fun i hi => ?_⟩
    by_cases ey : y = x
    · subst ey
      rw [upd_same] at hi
      exact hv2 i hi
    · rw [upd_other sv v' ey] at hi
      exact hO _ ((h.own.2.2 y hy).2 i hi)
theorem Dsk.refile (h : Dsk w d m O D fb sv s) {x : Nm} {f f' : Fl} (hf : find s.fs x = some f) {S : Nat → Prop} (k : Fr S w w') (hS : ∀ i, O i → S i → i = fb x ∨ (sv x).ownBlock = some i) {v' : Value}
    (hF : FileAt w' (fb x) v' f') (hn : f'.name = x) (hok : FlOk f') (hv : ∀ i, v'.ownBlock = some i → (sv x).ownBlock = some i ∨ w.heap.size ≤ i) :
    Dsk w' d m (Gr O w w') D fb (upd sv x v') { s with fs := putF f' s.fs } := by
  refine h.refileO hf k hS hF hn hok hv (fun _ e => Or.inl e) (fun i hi => ?_) (gr_lt h.lt k.size)
  rcases hv i hi with k1 | k1
  · exact Or.inl ((h.own.2.2 x (by rw [hf]; rfl)).2 i k1)
  · refine Or.inr ⟨k1, ?_⟩
    obtain ⟨cur, h4⟩ := hF.row hi
    exact lt_of_block h4
/-- the disk's own cells are written -/
theorem Dsk.redisk (h : Dsk w d m O D fb sv s) (k : Fr (fun i => i = d) w w') (hfs : s'.fs = s.fs) (hok : DkOk s') {l : Int} (hd : DiskAt w' d m s' l) : Dsk w' d m (Gr O w w') D fb sv s' := by
  refine ⟨hok, ⟨l, hd⟩, map_fr h.map k (fun e => h.dm e.symm), fun y => by rw [hfs]; exact h.keys y, fun y g hg => ?_, by rw [hfs]; exact h.inj, ⟨Or.inl h.own.1, Or.inl h.own.2.1, fun y hy => ?_⟩, gr_lt h.lt k.size⟩
  · rw [hfs] at hg
    obtain ⟨a1, a2, a3, a4⟩ := h.apart hg
    exact ⟨(h.file y g hg).1, (h.file y g hg).2.fr k (fun e => a1 e.symm) (fun i hi e => (a3 i hi).1 e.symm)⟩
  · rw [hfs] at hy
    exact ⟨Or.inl (h.own.2.2 y hy).1, fun i hi => Or.inl ((h.own.2.2 y hy).2 i hi)⟩
/-- a file that lies beside the disk -/
structure Loose (w : World) (fb : Nm → Nat) (sv : Nm → Value) (s : Dk) (g : Nat) (v : Value) (f : Fl) : Prop where
  file : FileAt w g v f
  apart : ∀ y, (find s.fs y).isSome = true → fb y ≠ g ∧ ∀ k, (sv y).ownBlock = some k → v.ownBlock ≠ some k
/-- a name is struck -/
theorem Dsk.out (h : Dsk w d m O D fb sv s) {x : Nm} {f : Fl} (hf : find s.fs x = some f) (hm : OM w' m (Maps.size D) (D.del (.string x))) (k : Fr (fun i => i = m) w w') :
    Dsk w' d m (Gr O w w') (D.del (.string x)) fb sv { s with fs := delF x s.fs } ∧ Loose w' fb sv { s with fs := delF x s.fs } (fb x) (sv x) f ∧ O (fb x) ∧ ∀ i, (sv x).ownBlock = some i → O i := by
  have hx : (find s.fs x).isSome = true := by rw [hf]; rfl
  have hsome : ∀ y, (find (delF x s.fs) y).isSome = true → y ≠ x ∧ (find s.fs y).isSome = true := fun y hy => by
    rw [find_del] at hy
    by_cases e : y = x
    · rw [if_pos e] at hy; cases hy
    · rw [if_neg e] at hy; exact ⟨e, hy⟩
  have hfile : ∀ y g, find s.fs y = some g → FileAt w' (fb y) (sv y) g := fun y g hg => by
    obtain ⟨a1, a2, a3, a4⟩ := h.apart hg
    exact (h.file y g hg).2.fr k (fun e => a2 e.symm) (fun i hi e => (a3 i hi).2 e.symm)
  obtain ⟨l, d1, d2⟩ := h.disk
  refine ⟨⟨h.ok.del x, ⟨l, k.keep d1 h.dm, d2⟩, map_tight hm, fun y => ?_, fun y g hg => ?_, fun y z hy hz => h.inj y z (hsome y hy).2 (hsome z hz).2, ⟨Or.inl h.own.1, Or.inl h.own.2.1, fun y hy => ?_⟩, gr_lt h.lt k.size⟩, ⟨hfile x f hf, fun y hy => ?_⟩, h.own.2.2 x hx⟩
  · show _ = (find (delF x s.fs) y).isSome
    rw [find_del]
    by_cases e : y = x
    · subst e; rw [has_del_same]; simp
    · rw [has_del_other (fun e2 => e (by simpa using e2)), h.keys, if_neg e]
  · have h1 := hsome y (show (find (delF x s.fs) y).isSome = true by rw [show find (delF x s.fs) y = some g from hg]; rfl)
    have h2 : find s.fs y = some g := by
      have : find (delF x s.fs) y = some g := hg
      rwa [find_del, if_neg h1.1] at this
    exact ⟨fun z => by rw [atKey_del_other (fun e2 => h1.1 (by simpa using e2))]; exact (h.file y g h2).1 z, hfile y g h2⟩
  · have h1 := hsome y hy
    exact ⟨Or.inl (h.own.2.2 y h1.2).1, fun i hi => Or.inl ((h.own.2.2 y h1.2).2 i hi)⟩
  · have h1 := hsome y hy
    exact h.inj y x h1.2 hx h1.1
/-- a file gets a name -/
theorem Dsk.into (h : Dsk w d m O D fb sv s) {x : Nm} {f : Fl} {g : Nat} {v : Value} (hL : Loose w fb sv s g v f) (hn : f.name = x) (hok : FlOk f) (hl : (find s.fs x).isSome = true ∨ s.fs.length < 16)
    {n : Nat} (hm : OM w' m n (D.put (.string x) (.lit (.int .i64 g)))) (k : Fr (fun i => i = m) w w') {O' : Nat → Prop} (hO : ∀ i, O i → O' i) (hg : O' g) (hv : ∀ i, v.ownBlock = some i → O' i) (hlt : ∀ i, O' i → i < w'.heap.size) :
    Dsk w' d m O' (D.put (.string x) (.lit (.int .i64 g))) (upd fb x g) (upd sv x v) { s with fs := putF f s.fs } := by
  have hxl : x.length ≤ maxLen := by have := hok.2.2; rw [hn] at this; unfold maxLen; omega
  obtain ⟨l, d1, d2⟩ := h.disk
  obtain ⟨es, clock, hmb, _⟩ := h.map
  have hgm : g ≠ m := fun e => by
    have := hL.file.1
    rw [e, hmb] at this; simp at this
  have hvm : ∀ i, v.ownBlock = some i → i ≠ m := fun i hi e => by
    obtain ⟨cur, h4⟩ := hL.file.row hi
    rw [e, hmb] at h4; simp at h4
  have hfile : ∀ y g, find s.fs y = some g → FileAt w' (fb y) (sv y) g := fun y g hg => by
    obtain ⟨a1, a2, a3, a4⟩ := h.apart hg
    exact (h.file y g hg).2.fr k (fun e => a2 e.symm) (fun i hi e => (a3 i hi).2 e.symm)
  have hsome : ∀ y, (find (putF f s.fs) y).isSome = true → y = x ∨ (y ≠ x ∧ (find s.fs y).isSome = true) := fun y hy => by
    rw [find_put h.ok.srt, hn] at hy
    by_cases e : x = y
    · exact Or.inl e.symm
    · rw [if_neg e] at hy; exact Or.inr ⟨fun e2 => e e2.symm, hy⟩
  refine ⟨h.ok.put hok (by rw [hn]; exact hl), ⟨l, k.keep d1 h.dm, d2⟩, map_tight hm, fun y => ?_, fun y g2 hg2 => ?_, fun y z hy hz hne => ?_, ⟨hO _ h.own.1, hO _ h.own.2.1, fun y hy => ?_⟩, hlt⟩
  · show _ = (find (putF f s.fs) y).isSome
    rw [find_put h.ok.srt, hn]
    by_cases e : x = y
    · subst e
      rw [if_pos rfl, has_put_same h.map.isMap (isKey_st x hxl)]; rfl
    · rw [has_put_other (fun e2 => e (by simpa using e2.symm)), h.keys, if_neg e]
  · have hg3 : find (putF f s.fs) y = some g2 := hg2
    rw [find_put h.ok.srt, hn] at hg3
    by_cases e : x = y
    · subst e
      rw [if_pos rfl] at hg3
      cases hg3
      rw [upd_same, upd_same]
      exact ⟨fun z => atKey_put_same h.map.isMap (isKey_st x hxl) _ z, hL.file.fr k hgm hvm⟩
    · rw [if_neg e] at hg3
      have e2 : y ≠ x := fun e2 => e e2.symm
      rw [upd_other _ _ e2, upd_other _ _ e2]
      exact ⟨fun z => by rw [atKey_put_other (fun e3 => e2 (by simpa using e3))]; exact (h.file y g2 hg3).1 z, hfile y g2 hg3⟩
  · rcases hsome y hy with rfl | ⟨ey, hy2⟩
    · rcases hsome z hz with rfl | ⟨ez, hz2⟩
      · exact absurd rfl hne
      · rw [upd_same, upd_same, upd_other _ _ ez, upd_other _ _ ez]
        obtain ⟨p1, p2⟩ := hL.apart z hz2
        exact ⟨fun e => p1 e.symm, fun i hi e => p2 i e hi⟩
    · rw [upd_other _ _ ey, upd_other _ _ ey]
      rcases hsome z hz with rfl | ⟨ez, hz2⟩
      · rw [upd_same, upd_same]
        exact hL.apart y hy2
      · rw [upd_other _ _ ez, upd_other _ _ ez]
        exact h.inj y z hy2 hz2 hne
  · rcases hsome y hy with rfl | ⟨ey, hy2⟩
    · rw [upd_same, upd_same]; exact ⟨hg, hv⟩
    · rw [upd_other _ _ ey, upd_other _ _ ey]
      exact ⟨hO _ (h.own.2.2 y hy2).1, fun i hi => hO _ ((h.own.2.2 y hy2).2 i hi)⟩
/-- the same file gets its name once more -/
theorem Dsk.again (h : Dsk w d m O D fb sv s) {x : Nm} {f : Fl} (hf : find s.fs x = some f) {n : Nat} (hm : OM w' m n (D.put (.string x) (.lit (.int .i64 (fb x))))) (k : Fr (fun i => i = m) w w') :
    Dsk w' d m (Gr O w w') (D.put (.string x) (.lit (.int .i64 (fb x)))) fb sv s := by
  have hx : (find s.fs x).isSome = true := by rw [hf]; rfl
  have hxl : x.length ≤ maxLen := by have := h.nm_le hx; unfold maxLen; omega
  obtain ⟨l, d1, d2⟩ := h.disk
  refine ⟨h.ok, ⟨l, k.keep d1 h.dm, d2⟩, map_tight hm, fun y => ?_, fun y g hg => ?_, h.inj, ⟨Or.inl h.own.1, Or.inl h.own.2.1, fun y hy => ⟨Or.inl (h.own.2.2 y hy).1, fun i hi => Or.inl ((h.own.2.2 y hy).2 i hi)⟩⟩, gr_lt h.lt k.size⟩
  · by_cases e : x = y
    · subst e
      rw [has_put_same h.map.isMap (isKey_st x hxl), hx]
    · rw [has_put_other (fun e2 => e (by simpa using e2.symm)), h.keys]
  · obtain ⟨a1, a2, a3, a4⟩ := h.apart hg
    refine ⟨fun z => ?_, (h.file y g hg).2.fr k (fun e => a2 e.symm) (fun i hi e => (a3 i hi).2 e.symm)⟩
    by_cases e : x = y
    · subst e
      exact atKey_put_same h.map.isMap (isKey_st x hxl) _ z
    · rw [atKey_put_other (fun e3 => e (by simpa using e3.symm))]
      exact (h.file y g hg).1 z
end Go.Proofs.Ytnaedngbcndakaa
