/-
  Disks as mathematics: files in the order of their names, what each operation makes of them. No program is named here. No condition beyond those in each theorem's own statement.
-/
import Derived.WalkKit
import Derived.Sort.KeysCollected
namespace Go.Proofs.Ytnaedngbcndakaa
open Go

abbrev Nm := List UInt8
/-- a file: its name, its bytes, how many of them are safe -/
structure Fl where
  name : List UInt8
  data : List UInt8
  safe : Nat
/-- a disk -/
structure Dk where
  fs : List Fl
  down : Bool
  left : Int
  keep : Int
  steps : Nat

def find (l : List Fl) (x : Nm) : Option Fl := l.find? (fun f => decide (f.name = x))
def putF (f : Fl) : List Fl → List Fl
  | [] => [f]
  | g :: r => if f.name < g.name then f :: g :: r else if f.name = g.name then f :: r else g :: putF f r
def delF (x : Nm) (l : List Fl) : List Fl := l.filter (fun f => decide (f.name ≠ x))
def Srt (l : List Fl) : Prop := l.Pairwise (fun a b => a.name < b.name)

/-! ### the order of names -/
theorem nm_irr (a : Nm) : ¬ a < a := List.lt_irrefl a
theorem nm_trans {a b c : Nm} (h : a < b) (k : b < c) : a < c := List.lt_trans h k
theorem nm_tri {a b : Nm} (h : ¬ a < b) (k : a ≠ b) : b < a := by
  have h1 : b ≤ a := List.not_lt.1 h
  by_cases h2 : b < a
  · exact h2
  · exact absurd (List.le_antisymm (List.not_lt.1 h2) h1) k

theorem find_nil (x : Nm) : find [] x = none := rfl
theorem find_cons (f : Fl) (l : List Fl) (x : Nm) : find (f :: l) x = if f.name = x then some f else find l x := by
  unfold find
  rw [List.find?_cons]
  by_cases h : f.name = x <;> simp [h]
theorem find_name {l : List Fl} {x : Nm} {f : Fl} (h : find l x = some f) : f.name = x := by
  have := List.find?_some h
  simpa using this
theorem find_mem {l : List Fl} {x : Nm} {f : Fl} (h : find l x = some f) : f ∈ l := List.mem_of_find?_eq_some h
theorem find_none {l : List Fl} {x : Nm} : find l x = none ↔ ∀ f ∈ l, f.name ≠ x := by
  unfold find
  rw [List.find?_eq_none]
  simp
theorem srt_cons {f : Fl} {l : List Fl} : Srt (f :: l) ↔ (∀ g ∈ l, f.name < g.name) ∧ Srt l := List.pairwise_cons
theorem find_of_mem : ∀ {l : List Fl} {f : Fl}, Srt l → f ∈ l → find l f.name = some f
  | g :: r, f, hs, hm => by
    rw [find_cons]
    obtain ⟨h1, h2⟩ := srt_cons.1 hs
    rcases List.mem_cons.1 hm with rfl | h
    · simp
    · rw [if_neg (fun e => nm_irr f.name (by have := h1 f h; rwa [e] at this))]
      exact find_of_mem h2 h
theorem mem_put {f g : Fl} : ∀ {l : List Fl}, g ∈ putF f l → g = f ∨ g ∈ l
  | [], h => by simp [putF] at h; exact Or.inl h
  | k :: r, h => by
    unfold putF at h
    split at h
    · rcases List.mem_cons.1 h with h | h
      · exact Or.inl h
      · exact Or.inr h
    · split at h
      · rcases List.mem_cons.1 h with h | h
        · exact Or.inl h
        · exact Or.inr (List.mem_cons_of_mem _ h)
      · rcases List.mem_cons.1 h with h | h
        · exact Or.inr (h ▸ List.mem_cons_self)
        · rcases mem_put h with h | h
          · exact Or.inl h
          · exact Or.inr (List.mem_cons_of_mem _ h)
theorem srt_put {f : Fl} : ∀ {l : List Fl}, Srt l → Srt (putF f l)
  | [], _ => by simp [putF, Srt]
  | k :: r, h => by
    obtain ⟨h1, h2⟩ := srt_cons.1 h
    unfold putF
    split
    · rename_i hlt
      refine srt_cons.2 ⟨fun g hg => ?_, h⟩
      rcases List.mem_cons.1 hg with rfl | hg
      · exact hlt
      · exact nm_trans hlt (h1 g hg)
    · rename_i hnl
      split
      · rename_i he
        exact srt_cons.2 ⟨fun g hg => by rw [he]; exact h1 g hg, h2⟩
      · rename_i hne
        refine srt_cons.2 ⟨fun g hg => ?_, srt_put h2⟩
        rcases mem_put hg with rfl | hg
        · exact nm_tri hnl hne
        · exact h1 g hg
theorem find_put {f : Fl} {x : Nm} : ∀ {l : List Fl}, Srt l → find (putF f l) x = if f.name = x then some f else find l x
  | [], _ => by simp [putF, find_cons, find_nil]
  | k :: r, h => by
    obtain ⟨h1, h2⟩ := srt_cons.1 h
    unfold putF
    split
    · rw [find_cons]
    · split
      · rename_i he
        rw [find_cons, find_cons]
        by_cases hx : f.name = x
        · simp [hx]
        · rw [if_neg hx, if_neg hx, if_neg (by rw [← he]; exact hx)]
      · rename_i hne
        rw [find_cons, find_cons, find_put h2]
        by_cases hx : f.name = x
        · rw [if_pos hx, if_pos hx, if_neg (fun e => hne (by rw [hx, e]))]
        · rw [if_neg hx, if_neg hx]
theorem srt_del {x : Nm} {l : List Fl} (h : Srt l) : Srt (delF x l) := List.Pairwise.filter _ h
theorem find_del {x y : Nm} : ∀ {l : List Fl}, find (delF x l) y = if y = x then none else find l y
  | [] => by simp [delF, find_nil]
  | k :: r => by
    have ih := find_del (x := x) (y := y) (l := r)
    unfold delF at *
    rw [List.filter_cons]
    by_cases hk : k.name = x
    · rw [if_neg (by simp [hk]), ih, find_cons]
      by_cases hy : y = x
      · simp [hy]
      · rw [if_neg hy, if_neg hy, if_neg (fun e => hy (by rw [← e, hk]))]
    · rw [if_pos (by simp [hk]), find_cons, ih, find_cons]
      by_cases hy : y = x
      · rw [if_pos hy, if_pos hy, if_neg (fun e => hk (by rw [e, hy]))]
      · rw [if_neg hy, if_neg hy]
theorem srt_ext : ∀ {a b : List Fl}, Srt a → Srt b → (∀ x, find a x = find b x) → a = b
  | [], [], _, _, _ => rfl
  | [], g :: r, _, _, h => by
    have := h g.name
    rw [find_nil, find_cons, if_pos rfl] at this
    cases this
  | g :: r, [], _, _, h => by
    have := h g.name
    rw [find_nil, find_cons, if_pos rfl] at this
    cases this
  | g :: r, k :: s, ha, hb, h => by
    obtain ⟨a1, a2⟩ := srt_cons.1 ha
    obtain ⟨b1, b2⟩ := srt_cons.1 hb
    have e1 := h g.name
    have e2 := h k.name
    rw [find_cons, if_pos rfl, find_cons] at e1
    rw [find_cons, find_cons, if_pos rfl] at e2
    by_cases hn : k.name = g.name
    · rw [if_pos hn] at e1
      obtain rfl : g = k := by simpa using e1
      congr 1
      refine srt_ext a2 b2 (fun x => ?_)
      have := h x
      rw [find_cons, find_cons] at this
      by_cases hx : g.name = x
      · rw [find_none.2 (fun f hf e => nm_irr x (by have := a1 f hf; rwa [hx, e] at this)), find_none.2 (fun f hf e => nm_irr x (by have := b1 f hf; rwa [hx, e] at this))]
      · rwa [if_neg hx, if_neg hx] at this
    · exfalso
      rw [if_neg hn] at e1
      rw [if_neg (fun e => hn e.symm)] at e2
      have m1 := b1 g (find_mem e1.symm)
      have m2 := a1 k (find_mem e2)
      exact nm_irr _ (nm_trans m1 m2)
theorem len_put {f : Fl} : ∀ {l : List Fl}, Srt l → (putF f l).length = if (find l f.name).isSome then l.length else l.length + 1
  | [], _ => by simp [putF, find_nil]
  | k :: r, h => by
    obtain ⟨h1, h2⟩ := srt_cons.1 h
    unfold putF
    split
    · rename_i hlt
      rw [find_none.2 (fun g hg e => ?_)]
      · simp
      · rcases List.mem_cons.1 hg with rfl | hg
        · rw [e] at hlt; exact nm_irr _ hlt
        · have := nm_trans hlt (h1 g hg); rw [e] at this; exact nm_irr _ this
    · split
      · rename_i he
        rw [find_cons, if_pos he.symm]
        simp
      · rename_i hne
        have e2 : find (k :: r) f.name = find r f.name := by rw [find_cons, if_neg (fun e => hne e.symm)]
        rw [e2, List.length_cons, len_put h2]
        split <;> simp
theorem len_del {x : Nm} {l : List Fl} : (delF x l).length ≤ l.length := List.length_filter_le _ _
theorem mem_del {x : Nm} {l : List Fl} {f : Fl} (h : f ∈ delF x l) : f ∈ l := (List.mem_filter.1 h).1
theorem put_del_self {f : Fl} {l : List Fl} (h : Srt l) (hf : find l f.name = some f) : putF f (delF f.name l) = l := by
  refine srt_ext (srt_put (srt_del h)) h (fun x => ?_)
  rw [find_put (srt_del h), find_del]
  by_cases hx : f.name = x
  · subst hx; simp [hf]
  · rw [if_neg hx, if_neg (fun e => hx e.symm)]
theorem put_self {f : Fl} {l : List Fl} (h : Srt l) (hf : find l f.name = some f) : putF f l = l := by
  refine srt_ext (srt_put h) h (fun x => ?_)
  rw [find_put h]
  by_cases hx : f.name = x
  · subst hx; simp [hf]
  · rw [if_neg hx]
theorem put_put {f g : Fl} {l : List Fl} (h : Srt l) (hn : f.name = g.name) : putF f (putF g l) = putF f l := by
  refine srt_ext (srt_put (srt_put h)) (srt_put h) (fun x => ?_)
  rw [find_put (srt_put h), find_put h, find_put h]
  by_cases hx : f.name = x
  · simp [hx]
  · rw [if_neg hx, if_neg (fun e => hx (hn.trans e)), if_neg hx]
theorem del_put {f : Fl} {l : List Fl} (h : Srt l) : delF f.name (putF f l) = delF f.name l := by
  refine srt_ext (srt_del (srt_put h)) (srt_del h) (fun x => ?_)
  rw [find_del, find_del, find_put h]
  by_cases hx : x = f.name
  · simp [hx]
  · rw [if_neg hx, if_neg hx, if_neg (fun e => hx e.symm)]

/-! ### names as they are told -/
def names (l : List Fl) : List Nm := l.map (·.name)
theorem names_sorted {l : List Fl} (h : Srt l) : (names l).mergeSort leB = names l := by
  refine List.mergeSort_of_pairwise ?_
  unfold names
  refine List.pairwise_map.2 (h.imp fun {a b} hlt => ?_)
  simp only [leB, decide_eq_true_eq]
  exact List.le_of_lt hlt
theorem names_nodup {l : List Fl} (h : Srt l) : (names l).Nodup :=
  List.pairwise_map.2 (h.imp fun {a b} hlt => fun e => nm_irr a.name (by rw [← e] at hlt; exact hlt))
theorem mem_names {l : List Fl} {x : Nm} : x ∈ names l ↔ (find l x).isSome = true := by
  cases h : find l x with
  | none =>
    simp [names]
    exact fun f hf => find_none.1 h f hf
  | some f =>
    simp [names]
    exact ⟨f, find_mem h, find_name h⟩

/-! ### what a name is -/
def signB (c : UInt8) : Bool := (97 ≤ c && c ≤ 122) || (48 ≤ c && c ≤ 57) || c == 46 || c == 45
def nameB (l : Nm) : Bool := decide (l ≠ []) && decide (l.length ≤ 32) && l.all signB

/-! ### the power -/
def keepN (keep : Int) (u : Nat) : Nat := if 0 < keep then keep.toNat % (u + 1) else 0
theorem keepN_le (keep : Int) (u : Nat) : keepN keep u ≤ u := by
  unfold keepN; split
  · have := Nat.mod_lt keep.toNat (show 0 < u + 1 by omega); omega
  · omega
def lose (keep : Int) (f : Fl) : Fl := ⟨f.name, f.data.take (f.safe + keepN keep (f.data.length - f.safe)), f.safe + keepN keep (f.data.length - f.safe)⟩
def offD (s : Dk) (keep : Int) : Dk := { s with fs := s.fs.map (lose keep), down := true, left := -1 }
def tick (s : Dk) : Dk := { s with left := if 0 < s.left then s.left - 1 else s.left, steps := s.steps + 1 }
theorem find_map {g : Fl → Fl} (hg : ∀ f, (g f).name = f.name) : ∀ (l : List Fl) (x : Nm), find (l.map g) x = (find l x).map g
  | [], x => rfl
  | f :: r, x => by
    rw [List.map_cons, find_cons, find_cons, hg, find_map hg r x]
    split <;> rfl
theorem srt_map {g : Fl → Fl} (hg : ∀ f, (g f).name = f.name) {l : List Fl} (h : Srt l) : Srt (l.map g) :=
  List.pairwise_map.2 (h.imp fun {a b} hlt => by rw [hg, hg]; exact hlt)
theorem lose_name (keep : Int) (f : Fl) : (lose keep f).name = f.name := rfl

/-- a file of a disk: what holds of every one -/
def FlOk (f : Fl) : Prop := f.safe ≤ f.data.length ∧ f.data.length ≤ 1048576 ∧ f.name.length ≤ 32
theorem lose_ok {keep : Int} {f : Fl} (h : FlOk f) : FlOk (lose keep f) := by
  obtain ⟨h1, h2, h3⟩ := h
  have := keepN_le keep (f.data.length - f.safe)
  refine ⟨?_, ?_, h3⟩
  · show f.safe + keepN keep (f.data.length - f.safe) ≤ (f.data.take _).length
    rw [List.length_take]; omega
  · show (f.data.take _).length ≤ _
    rw [List.length_take]; omega
structure DkOk (s : Dk) : Prop where
  srt : Srt s.fs
  ok : ∀ f ∈ s.fs, FlOk f
  len : s.fs.length ≤ 16
  left : -1 ≤ s.left ∧ s.left ≤ 9223372036854775807
  keep : -9223372036854775808 ≤ s.keep ∧ s.keep ≤ 9223372036854775807
theorem DkOk.off {s : Dk} (h : DkOk s) (keep : Int) : DkOk (offD s keep) := by
  refine ⟨srt_map (lose_name keep) h.srt, fun f hf => ?_, by show (s.fs.map _).length ≤ 16; rw [List.length_map]; exact h.len, ⟨by show (-1 : Int) ≤ -1; omega, by show (-1 : Int) ≤ _; omega⟩, h.keep⟩
  obtain ⟨g, hg, rfl⟩ := List.mem_map.1 hf
  exact lose_ok (h.ok g hg)
theorem DkOk.tick {s : Dk} (h : DkOk s) : DkOk (tick s) := by
  have := h.left
  refine ⟨h.srt, h.ok, h.len, ?_, h.keep⟩
  show -1 ≤ (if 0 < s.left then s.left - 1 else s.left) ∧ (if 0 < s.left then s.left - 1 else s.left) ≤ _
  split <;> omega
theorem DkOk.put {s : Dk} (h : DkOk s) {f : Fl} (hf : FlOk f) (hl : (find s.fs f.name).isSome = true ∨ s.fs.length < 16) : DkOk { s with fs := putF f s.fs } := by
  refine ⟨srt_put h.srt, fun g hg => ?_, ?_, h.left, h.keep⟩
  · rcases mem_put hg with rfl | hg
    · exact hf
    · exact h.ok g hg
  · show (putF f s.fs).length ≤ 16
    have h1 := h.len
    rw [len_put h.srt]
    rcases hl with hl | hl
    · rw [if_pos hl]; exact h1
    · split <;> omega
theorem DkOk.del {s : Dk} (h : DkOk s) (x : Nm) : DkOk { s with fs := delF x s.fs } :=
  ⟨srt_del h.srt, fun g hg => h.ok g (mem_del hg), Nat.le_trans len_del h.len, h.left, h.keep⟩
theorem len_del_lt {x : Nm} {l : List Fl} (h : (find l x).isSome = true) : (delF x l).length < l.length := by
  obtain ⟨f, hf⟩ := Option.isSome_iff_exists.1 h
  unfold delF
  refine Nat.lt_of_le_of_ne (List.length_filter_le _ _) (fun e => ?_)
  have := List.length_filter_eq_length_iff.1 e f (find_mem hf)
  simp [find_name hf] at this

/-- a disk in the midst of a loss of power: left: whose turn is still to come -/
def partF (keep : Int) (left : Nm → Bool) (l : List Fl) : List Fl := l.map (fun f => if left f.name then f else lose keep f)
theorem part_name (keep : Int) (left : Nm → Bool) (f : Fl) : (if left f.name then f else lose keep f).name = f.name := by split <;> rfl
theorem find_part (keep : Int) (left : Nm → Bool) (l : List Fl) (x : Nm) : find (partF keep left l) x = (find l x).map (fun f => if left f.name then f else lose keep f) := find_map (part_name keep left) l x
theorem part_start {keep : Int} {left : Nm → Bool} {l : List Fl} (h : ∀ x, left x = (find l x).isSome) : partF keep left l = l := by
  unfold partF
  refine (List.map_congr_left (fun f hf => ?_)).trans (List.map_id _)
  rw [if_pos]; rfl
  rw [h, ← mem_names]
  exact List.mem_map.2 ⟨f, hf, rfl⟩
theorem part_end {keep : Int} {left : Nm → Bool} {l : List Fl} (h : ∀ x, left x = false) : partF keep left l = l.map (lose keep) := by
  unfold partF
  exact List.map_congr_left (fun f _ => by rw [h]; rfl)
theorem srt_part {keep : Int} {left : Nm → Bool} {l : List Fl} (h : Srt l) : Srt (partF keep left l) := srt_map (part_name keep left) h
theorem part_step {keep : Int} {left : Nm → Bool} {l : List Fl} (hs : Srt l) {x : Nm} {f : Fl} (hf : find l x = some f) : putF (lose keep f) (partF keep left l) = partF keep (fun y => left y && decide (y ≠ x)) l := by
  refine srt_ext (srt_put (srt_part hs)) (srt_part hs) (fun y => ?_)
  rw [find_put (srt_part hs), find_part, find_part, lose_name, find_name hf]
  by_cases e : x = y
  · subst e
    rw [if_pos rfl, hf]
    simp [find_name hf]
  · rw [if_neg e]
    cases hy : find l y with
    | none => rfl
    | some g =>
      have e3 : decide (y ≠ x) = true := decide_eq_true (fun e2 => e e2.symm)
      simp only [Option.map_some, find_name hy, e3, Bool.and_true]

/-! ### the calls: the number that is answered, the disk behind it -/
def newD : Dk := ⟨[], false, -1, 0, 0⟩
def readD (s : Dk) (x : Nm) : Nm × Int :=
  if s.down then ([], 60) else if nameB x then (match find s.fs x with | none => ([], 62) | some f => (f.data, 0)) else ([], 61)
/-- an operation that is not refused: a: the disk behind it where the power goes with it or not at all, b: the disk on which it is done -/
def goD (a b : Dk) : Int × Dk := if a.left = 0 then (60, offD a a.keep) else (0, tick b)
def appendD (s : Dk) (x data : Nm) : Int × Dk :=
  if s.down then (60, s) else if nameB x then
    (match find s.fs x with
      | none => if 16 ≤ s.fs.length ∨ 1048576 < data.length then (63, s) else goD { s with fs := putF ⟨x, data, 0⟩ s.fs } { s with fs := putF ⟨x, data, 0⟩ s.fs }
      | some f => if 1048576 < f.data.length + data.length then (63, s) else goD { s with fs := putF ⟨x, f.data ++ data, f.safe⟩ s.fs } { s with fs := putF ⟨x, f.data ++ data, f.safe⟩ s.fs })
  else (61, s)
def syncD (s : Dk) (x : Nm) : Int × Dk :=
  if s.down then (60, s) else if nameB x then
    (match find s.fs x with
      | none => (62, s)
      | some f => goD s { s with fs := putF ⟨x, f.data, f.data.length⟩ s.fs })
  else (61, s)
def cutD (s : Dk) (x : Nm) (n : Int) : Int × Dk :=
  if s.down then (60, s) else if nameB x then
    (match find s.fs x with
      | none => (62, s)
      | some f => if n < 0 ∨ (f.data.length : Int) < n then (1, s) else goD s { s with fs := putF ⟨x, f.data.take n.toNat, n.toNat⟩ s.fs })
  else (61, s)
def renameD (s : Dk) (x y : Nm) : Int × Dk :=
  if s.down then (60, s) else if nameB x && nameB y then
    (match find s.fs x with
      | none => (62, s)
      | some f => goD s { s with fs := putF ⟨y, f.data, f.safe⟩ (delF x s.fs) })
  else (61, s)
def deleteD (s : Dk) (x : Nm) : Int × Dk :=
  if s.down then (60, s) else if nameB x then
    (match find s.fs x with
      | none => (62, s)
      | some _ => goD s { s with fs := delF x s.fs })
  else (61, s)
def armD (s : Dk) (n keep : Int) : Dk := if s.down then s else { s with left := if n < 0 then -1 else n, keep := keep }
def onD (s : Dk) : Dk := { s with down := false, left := -1 }
def offC (s : Dk) (keep : Int) : Dk := if s.down then s else offD s keep
def safeD (s : Dk) (x : Nm) : Nat := match find s.fs x with | none => 0 | some f => f.safe
end Go.Proofs.Ytnaedngbcndakaa
