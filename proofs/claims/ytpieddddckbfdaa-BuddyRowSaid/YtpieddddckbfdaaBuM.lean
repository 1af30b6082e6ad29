/-
  Mathematics of blocks: intervals of addresses, halves, parents, the one list of a set of addresses that is made of blocks. No program is named here. No condition beyond those in each theorem's own statement.
-/
import Derived.Test.YtpieddddckbfdaaAddrNestM
namespace Go.Proofs.Ytpieddddckbfdaa
open Go

/-- a block: its address and its bits -/
abbrev Bk := Nat × Int
def szB (x : Bk) : Nat := 2 ^ (128 - x.2.toNat)
def sndB (x : Bk) : Bool := soundS x.1 x.2
def covB (x y : Bk) : Bool := coversS x.1 x.2 y.1 y.2
def metB (x y : Bk) : Bool := meetsS x.1 x.2 y.1 y.2
def hasB (x : Bk) (a : Nat) : Bool := hasS x.1 x.2 a
def endB (x : Bk) : Nat := x.1 + szB x

theorem szB_pos (x : Bk) : 0 < szB x := pow_pos _
theorem end_pos (x : Bk) : x.1 < endB x := by have := szB_pos x; unfold endB; omega
theorem snd_iff {x : Bk} : sndB x = true ↔ (0 ≤ x.2 ∧ x.2 ≤ 128) ∧ clipS x.1 x.2.toNat = x.1 := sound_iff
theorem hasB_iff {x : Bk} {a : Nat} : hasB x a = true ↔ (0 ≤ x.2 ∧ x.2 ≤ 128) ∧ clipS a x.2.toNat = x.1 := has_iff
theorem has_snd {x : Bk} {a : Nat} (h : hasB x a = true) : sndB x = true := by
  obtain ⟨h1, h2⟩ := hasB_iff.1 h
  exact snd_iff.2 ⟨h1, by rw [← h2]; exact clip_again⟩
theorem has_int {x : Bk} {a : Nat} (hs : sndB x = true) : hasB x a = true ↔ x.1 ≤ a ∧ a < endB x := by
  obtain ⟨h1, h2⟩ := snd_iff.1 hs
  rw [hasB_iff]
  unfold endB szB
  have hp := pow_pos (128 - x.2.toNat)
  obtain ⟨q, hq⟩ := clip_dvd h2
  unfold clipS
  clear h2
  generalize 2 ^ (128 - x.2.toNat) = B at *
  generalize x.1 = p at *
  constructor
  · rintro ⟨_, h⟩
    have e1 := Nat.div_add_mod a B
    have e2 := Nat.mod_lt a hp
    rw [Nat.mul_comm] at h
    constructor <;> omega
  · rintro ⟨h3, h4⟩
    refine ⟨h1, ?_⟩
    have : a / B = q := Nat.div_eq_of_lt_le (by rw [Nat.mul_comm]; omega) (by rw [Nat.mul_comm, Nat.mul_add, Nat.mul_one]; omega)
    rw [this, hq, Nat.mul_comm]
theorem has_self {x : Bk} (hs : sndB x = true) : hasB x x.1 = true := hs
theorem cov_iff {x y : Bk} : covB x y = true ↔ sndB x = true ∧ sndB y = true ∧ x.1 ≤ y.1 ∧ endB y ≤ endB x := by
  constructor
  · intro h
    obtain ⟨hy, hn, hx, hc⟩ := covers_iff.1 h
    have sy : sndB y = true := snd_iff.2 hy
    have hxy : hasB x y.1 = true := hasB_iff.2 ⟨hx, hc⟩
    have sx := has_snd hxy
    have h1 := (has_int sx).1 hxy
    have hz := szB_pos y
    have hl : hasB y (endB y - 1) = true := (has_int sy).2 (by unfold endB; omega)
    have h2 := (has_int sx).1 (covers_has h hl)
    unfold endB at *
    exact ⟨sx, sy, h1.1, by omega⟩
  · rintro ⟨sx, sy, h1, h2⟩
    refine covers_iff.2 ⟨snd_iff.1 sy, ?_, (snd_iff.1 sx).1, ?_⟩
    · have hz : szB y ≤ szB x := by unfold endB at h2; omega
      obtain ⟨⟨a, b⟩, _⟩ := snd_iff.1 sx
      obtain ⟨⟨c, d⟩, _⟩ := snd_iff.1 sy
      have := (Nat.pow_le_pow_iff_right (a := 2) (by omega)).1 hz
      omega
    · have := end_pos y
      exact (hasB_iff.1 ((has_int sx).2 ⟨h1, by omega⟩)).2
theorem cov_self {x : Bk} (hs : sndB x = true) : covB x x = true := cov_iff.2 ⟨hs, hs, Nat.le_refl _, Nat.le_refl _⟩
theorem cov_trans {x y z : Bk} (h : covB x y = true) (k : covB y z = true) : covB x z = true := by
  obtain ⟨a, b, c, d⟩ := cov_iff.1 h
  obtain ⟨_, e, f, g⟩ := cov_iff.1 k
  exact cov_iff.2 ⟨a, e, by omega, by omega⟩
theorem cov_anti {x y : Bk} (h : covB x y = true) (k : covB y x = true) : x = y := by
  obtain ⟨a, b⟩ := covers_both h k
  exact Prod.ext a b
theorem cov_bits {x y : Bk} (h : covB x y = true) : 0 ≤ x.2 ∧ x.2 ≤ y.2 ∧ y.2 ≤ 128 := by
  obtain ⟨⟨hy, _⟩, hn, hx, _⟩ := covers_iff.1 h
  omega
theorem nested {x y : Bk} (hx : sndB x = true) (hy : sndB y = true) (h : x.1 < endB y) (k : y.1 < endB x) : covB x y = true ∨ covB y x = true := by
  have e1 := end_pos x
  have e2 := end_pos y
  rcases Nat.le_total x.1 y.1 with e | e
  · exact has_meets (a := y.1) ((has_int hx).2 ⟨e, k⟩) ((has_int hy).2 ⟨Nat.le_refl _, e2⟩)
  · exact has_meets (a := x.1) ((has_int hx).2 ⟨Nat.le_refl _, e1⟩) ((has_int hy).2 ⟨e, h⟩)
theorem metB_or (x y : Bk) : metB x y = (covB x y || covB y x) := rfl
theorem met_comm (x y : Bk) : metB x y = metB y x := by rw [metB_or, metB_or, Bool.or_comm]
theorem met_snd {x y : Bk} (h : metB x y = true) : sndB x = true ∧ sndB y = true := by
  rw [metB_or, Bool.or_eq_true] at h
  rcases h with h | h
  · have := cov_iff.1 h; exact ⟨this.1, this.2.1⟩
  · have := cov_iff.1 h; exact ⟨this.2.1, this.1⟩
theorem met_iff {x y : Bk} (hx : sndB x = true) (hy : sndB y = true) : metB x y = true ↔ x.1 < endB y ∧ y.1 < endB x := by
  have e1 := end_pos x
  have e2 := end_pos y
  rw [metB_or, Bool.or_eq_true]
  constructor
  · rintro (h | h)
    · have := cov_iff.1 h; omega
    · have := cov_iff.1 h; omega
  · rintro ⟨h, k⟩
    exact nested hx hy h k
theorem met_no {x y : Bk} (hx : sndB x = true) (hy : sndB y = true) : metB x y = false ↔ endB x ≤ y.1 ∨ endB y ≤ x.1 := by
  rw [← Bool.not_eq_true, met_iff hx hy]
  omega

/-! ### halves and parents -/
def lowB (x : Bk) : Bk := (x.1, x.2 + 1)
def highB (x : Bk) : Bk := (x.1 + 2 ^ (127 - x.2.toNat), x.2 + 1)
theorem half_all {x : Bk} (hs : sndB x = true) (h : x.2 < 128) : sndB (lowB x) = true ∧ sndB (highB x) = true ∧ endB (lowB x) = (highB x).1 ∧ endB (highB x) = endB x ∧ szB x = szB (lowB x) + szB (highB x) := by
  obtain ⟨⟨h0, _⟩, hc⟩ := snd_iff.1 hs
  have e1 : (x.2 + 1).toNat = x.2.toNat + 1 := by omega
  have lc := low_clip hc (by omega)
  have uc := up_clip hc (by omega)
  have hp := half_pow (n := x.2.toNat) (by omega)
  have e2 : 128 - (x.2.toNat + 1) = 127 - x.2.toNat := by omega
  rw [e2] at hp
  have z1 : szB (lowB x) = 2 ^ (127 - x.2.toNat) := by unfold szB lowB; simp only; rw [e1, e2]
  have z2 : szB (highB x) = 2 ^ (127 - x.2.toNat) := by unfold szB highB; simp only; rw [e1, e2]
  have z3 : szB x = 2 * 2 ^ (127 - x.2.toNat) := by unfold szB; exact hp
  refine ⟨snd_iff.2 ⟨by simp only [lowB]; omega, by simp only [lowB]; rw [e1]; exact lc⟩, snd_iff.2 ⟨by simp only [highB]; omega, by simp only [highB]; rw [e1]; exact uc⟩, ?_, ?_, ?_⟩
  · unfold endB; rw [z1]; rfl
  · unfold endB; rw [z2, z3]; simp only [highB]; omega
  · omega
theorem low_1 (x : Bk) : (lowB x).1 = x.1 := rfl
theorem low_2 (x : Bk) : (lowB x).2 = x.2 + 1 := rfl
theorem high_2 (x : Bk) : (highB x).2 = x.2 + 1 := rfl
theorem cov_low {x : Bk} (hs : sndB x = true) (h : x.2 < 128) : covB x (lowB x) = true ∧ covB x (highB x) = true := by
  obtain ⟨a, b, c, d, e⟩ := half_all hs h
  have e1 := end_pos (lowB x)
  have e2 := end_pos (highB x)
  have e3 := low_1 x
  exact ⟨cov_iff.2 ⟨hs, a, by omega, by omega⟩, cov_iff.2 ⟨hs, b, by omega, by omega⟩⟩
theorem cov_half {p x : Bk} (h : covB p x = true) (hne : x ≠ p) : p.2 < 128 ∧ (covB (lowB p) x = true ∨ covB (highB p) x = true) := by
  obtain ⟨sp, _⟩ := cov_iff.1 h
  obtain ⟨⟨hx, hxc⟩, hn, hp, hc⟩ := covers_iff.1 h
  have h1 : p.2 < x.2 := by
    rcases Int.lt_or_eq_of_le hn with e | e
    · exact e
    · exact absurd (Prod.ext (by rw [← hc, e, hxc]) e.symm) hne
  have h2 : p.2 < 128 := by omega
  refine ⟨h2, ?_⟩
  have e1 : (p.2 + 1).toNat = p.2.toNat + 1 := by omega
  have hpc := (snd_iff.1 sp).2
  rcases (half_has (a := x.1) hpc (by omega)).1 hc with k | k
  · left
    exact covers_iff.2 ⟨⟨hx, hxc⟩, by simp only [lowB]; omega, by simp only [lowB]; omega, by simp only [lowB]; rw [e1]; exact k⟩
  · right
    exact covers_iff.2 ⟨⟨hx, hxc⟩, by simp only [highB]; omega, by simp only [highB]; omega, by simp only [highB]; rw [e1]; exact k⟩

def isPar (x : Bk) : Bool := okN (x.2 - 1)
def parB (x : Bk) : Bk := (clipA x.1 (x.2 - 1), clipN (x.2 - 1))
/-- what the program asks of two blocks that don't meet: whether they have one parent -/
def sibB (x y : Bk) : Bool := isPar x && isPar y && decide (parB x = parB y)
theorem par_all {x : Bk} (hs : sndB x = true) (h : isPar x = true) : sndB (parB x) = true ∧ (parB x).2 = x.2 - 1 ∧ (parB x).2 < 128 ∧ (x = lowB (parB x) ∨ x = highB (parB x)) := by
  obtain ⟨⟨h0, h1⟩, hc⟩ := snd_iff.1 hs
  have h' : okN (x.2 - 1) = true := h
  have ho := okN_iff.1 h'
  have e1 : clipA x.1 (x.2 - 1) = clipS x.1 (x.2 - 1).toNat := by unfold clipA; rw [if_pos h']
  have e2 : clipN (x.2 - 1) = x.2 - 1 := by unfold clipN; rw [if_pos h']
  have e3 : x.2.toNat = (x.2 - 1).toNat + 1 := by omega
  unfold parB
  rw [e1, e2]
  have hq : clipS (clipS x.1 (x.2 - 1).toNat) (x.2 - 1).toNat = clipS x.1 (x.2 - 1).toNat := clip_again
  have hk := (half_has (a := x.1) hq (by omega)).1 rfl
  rw [← e3, hc] at hk
  refine ⟨snd_iff.2 ⟨by omega, hq⟩, rfl, by simp only; omega, ?_⟩
  rcases hk with k | k
  · left; exact Prod.ext k (by simp only [lowB]; omega)
  · right; exact Prod.ext k (by simp only [highB]; omega)
theorem par_low {q : Bk} (hs : sndB q = true) (h : q.2 < 128) : isPar (lowB q) = true ∧ parB (lowB q) = q ∧ isPar (highB q) = true ∧ parB (highB q) = q := by
  obtain ⟨⟨h0, _⟩, hc⟩ := snd_iff.1 hs
  have e : q.2 + 1 - 1 = q.2 := by omega
  have ho : okN q.2 = true := okN_iff.2 (by omega)
  refine ⟨by unfold isPar lowB; simp only; rw [e]; exact ho, ?_, by unfold isPar highB; simp only; rw [e]; exact ho, ?_⟩
  · unfold parB lowB; simp only; rw [e]; unfold clipA clipN; rw [if_pos ho, if_pos ho, hc]
  · unfold parB highB; simp only; rw [e]; unfold clipA clipN; rw [if_pos ho, if_pos ho, up_back hc (by omega)]
theorem sib_iff {x y : Bk} (hx : sndB x = true) (hy : sndB y = true) (ho : endB x ≤ y.1) : sibB x y = true ↔ ∃ q, sndB q = true ∧ q.2 < 128 ∧ x = lowB q ∧ y = highB q := by
  unfold sibB
  rw [Bool.and_eq_true, Bool.and_eq_true, decide_eq_true_iff]
  constructor
  · rintro ⟨⟨h1, h2⟩, h3⟩
    obtain ⟨a, b, c, d⟩ := par_all hx h1
    obtain ⟨_, _, _, d2⟩ := par_all hy h2
    rw [← h3] at d2
    generalize parB x = q at *
    obtain ⟨f1, f2, f3, f4, f5⟩ := half_all a c
    have e1 := end_pos x
    have e2 := end_pos y
    have e3 := low_1 q
    refine ⟨q, a, c, ?_⟩
    rcases d with d | d
    · rcases d2 with d2 | d2
      · rw [d2] at ho; rw [d] at ho e1; omega
      · exact ⟨d, d2⟩
    · rcases d2 with d2 | d2
      · rw [d2] at ho; rw [d] at ho e1; have := end_pos (lowB q); omega
      · rw [d2] at ho; rw [d] at ho e1; omega
  · rintro ⟨q, h1, h2, rfl, rfl⟩
    obtain ⟨a, b, c, d⟩ := par_low h1 h2
    exact ⟨⟨a, c⟩, by rw [b, d]⟩

/-! ### lists of blocks -/
def OrdL (p : Bk) (L : List Bk) : Prop := (∀ x ∈ L, covB p x = true) ∧ L.Pairwise (fun x y => endB x ≤ y.1)
def CanL (p : Bk) (L : List Bk) : Prop := OrdL p L ∧ L.Pairwise (fun x y => sibB x y = false)
def inL (L : List Bk) (a : Nat) : Prop := ∃ x ∈ L, hasB x a = true
def sumB : List Bk → Nat
  | [] => 0
  | x :: r => szB x + sumB r
theorem sumB_append : ∀ L M : List Bk, sumB (L ++ M) = sumB L + sumB M
  | [], M => by simp [sumB]
  | x :: r, M => by
    show szB x + sumB (r ++ M) = szB x + sumB r + sumB M
    rw [sumB_append r M]; omega
theorem inL_append {L M : List Bk} {a : Nat} : inL (L ++ M) a ↔ inL L a ∨ inL M a := by
  unfold inL
  constructor
  · rintro ⟨x, hx, h⟩
    rcases List.mem_append.1 hx with k | k
    · exact Or.inl ⟨x, k, h⟩
    · exact Or.inr ⟨x, k, h⟩
  · rintro (⟨x, hx, h⟩ | ⟨x, hx, h⟩)
    · exact ⟨x, List.mem_append_left _ hx, h⟩
    · exact ⟨x, List.mem_append_right _ hx, h⟩
theorem inL_nil {a : Nat} : ¬ inL [] a := by rintro ⟨x, hx, _⟩; simp at hx
theorem inL_cons {x : Bk} {r : List Bk} {a : Nat} : inL (x :: r) a ↔ hasB x a = true ∨ inL r a := by
  unfold inL
  simp
theorem inL_one {x : Bk} {a : Nat} : inL [x] a ↔ hasB x a = true := by rw [inL_cons]; simp [inL_nil]
theorem can_nil (p : Bk) : CanL p [] := ⟨⟨fun x h => by simp at h, List.Pairwise.nil⟩, List.Pairwise.nil⟩
theorem can_one {p x : Bk} (h : covB p x = true) : CanL p [x] := ⟨⟨fun y hy => by simp at hy; subst hy; exact h, List.pairwise_singleton _ _⟩, List.pairwise_singleton _ _⟩
theorem ord_whole {p : Bk} {L : List Bk} (h : OrdL p L) (hp : p ∈ L) : L = [p] := by
  obtain ⟨s, t, rfl⟩ := List.append_of_mem hp
  obtain ⟨h1, h2⟩ := h
  rw [List.pairwise_append] at h2
  obtain ⟨_, h3, h4⟩ := h2
  have es : s = [] := by
    cases s with
    | nil => rfl
    | cons x r =>
      have a := h4 x (by simp) p (by simp)
      have b := cov_iff.1 (h1 x (by simp))
      have := end_pos x
      omega
  have et : t = [] := by
    cases t with
    | nil => rfl
    | cons x r =>
      have a := (List.pairwise_cons.1 h3).1 x (by simp)
      have b := cov_iff.1 (h1 x (by simp))
      have := end_pos x
      omega
  rw [es, et]
  rfl
def belowL (L : List Bk) (m : Nat) : List Bk := L.takeWhile (fun x => decide (x.1 < m))
def fromL (L : List Bk) (m : Nat) : List Bk := L.dropWhile (fun x => decide (x.1 < m))
theorem below_from (L : List Bk) (m : Nat) : belowL L m ++ fromL L m = L := List.takeWhile_append_dropWhile
theorem below_lt : ∀ {L : List Bk} {m : Nat} {x : Bk}, x ∈ belowL L m → x.1 < m
  | [], m, x, h => by simp [belowL] at h
  | y :: r, m, x, h => by
    unfold belowL at h
    rw [List.takeWhile_cons] at h
    split at h
    · rename_i hy
      rcases List.mem_cons.1 h with e | e
      · rw [e]; simpa using hy
      · exact below_lt (L := r) e
    · simp at h
theorem from_ge : ∀ {L : List Bk} {m : Nat}, L.Pairwise (fun x y => x.1 ≤ y.1) → ∀ x ∈ fromL L m, m ≤ x.1
  | [], m, _, x, h => by simp [fromL] at h
  | y :: r, m, hs, x, h => by
    unfold fromL at h
    rw [List.dropWhile_cons] at h
    split at h
    · exact from_ge (L := r) (List.pairwise_cons.1 hs).2 x h
    · rename_i hy
      have hy' : m ≤ y.1 := by simpa using hy
      rcases List.mem_cons.1 h with e | e
      · rw [e]; exact hy'
      · exact Nat.le_trans hy' ((List.pairwise_cons.1 hs).1 x e)
theorem ord_rise {p : Bk} {L : List Bk} (h : OrdL p L) : L.Pairwise (fun x y => x.1 ≤ y.1) :=
  h.2.imp (fun {x y} k => by have := end_pos x; omega)
theorem ord_sub {p : Bk} {L M : List Bk} (h : OrdL p L) (s : M.Sublist L) : OrdL p M := ⟨fun x hx => h.1 x (s.subset hx), h.2.sublist s⟩
theorem can_sub {p : Bk} {L M : List Bk} (h : CanL p L) (s : M.Sublist L) : CanL p M := ⟨ord_sub h.1 s, h.2.sublist s⟩
theorem below_sub (L : List Bk) (m : Nat) : (belowL L m).Sublist L := List.takeWhile_sublist _
theorem from_sub (L : List Bk) (m : Nat) : (fromL L m).Sublist L := List.dropWhile_sublist _
theorem ord_split {p : Bk} {L : List Bk} (h : OrdL p L) (hp : p ∉ L) (hb : p.2 < 128) (hs : sndB p = true) : OrdL (lowB p) (belowL L (highB p).1) ∧ OrdL (highB p) (fromL L (highB p).1) := by
  obtain ⟨f1, f2, f3, f4, f5⟩ := half_all hs hb
  refine ⟨⟨fun x hx => ?_, h.2.sublist (below_sub _ _)⟩, ⟨fun x hx => ?_, h.2.sublist (from_sub _ _)⟩⟩
  · have hm := (below_sub _ _).subset hx
    rcases (cov_half (h.1 x hm) (fun e => hp (e ▸ hm))).2 with k | k
    · exact k
    · have a := below_lt hx
      have b := cov_iff.1 k
      omega
  · have hm := (from_sub _ _).subset hx
    rcases (cov_half (h.1 x hm) (fun e => hp (e ▸ hm))).2 with k | k
    · have a := from_ge (ord_rise h) x hx
      have b := cov_iff.1 k
      have := end_pos x
      omega
    · exact k
theorem ord_in {p : Bk} {L : List Bk} {a : Nat} (h : OrdL p L) (k : inL L a) : hasB p a = true := by
  obtain ⟨x, hx, hax⟩ := k
  exact covers_has (h.1 x hx) hax
theorem in_int {p : Bk} {L : List Bk} {a : Nat} (h : OrdL p L) (k : inL L a) : p.1 ≤ a ∧ a < endB p := by
  have := ord_in h k
  exact (has_int (has_snd this)).1 this
theorem split_in {p : Bk} {L : List Bk} (h : OrdL p L) (hp : p ∉ L) (hb : p.2 < 128) (hs : sndB p = true) (a : Nat) : (inL (belowL L (highB p).1) a ↔ inL L a ∧ a < (highB p).1) ∧ (inL (fromL L (highB p).1) a ↔ inL L a ∧ (highB p).1 ≤ a) := by
  obtain ⟨f1, f2, f3, f4, f5⟩ := half_all hs hb
  obtain ⟨h1, h2⟩ := ord_split h hp hb hs
  have e := below_from L (highB p).1
  constructor
  · constructor
    · intro k
      have := in_int h1 k
      exact ⟨by rw [← e]; exact inL_append.2 (Or.inl k), by omega⟩
    · rintro ⟨k, l⟩
      rw [← e] at k
      rcases inL_append.1 k with k | k
      · exact k
      · have := in_int h2 k; omega
  · constructor
    · intro k
      have := in_int h2 k
      exact ⟨by rw [← e]; exact inL_append.2 (Or.inr k), by omega⟩
    · rintro ⟨k, l⟩
      rw [← e] at k
      rcases inL_append.1 k with k | k
      · have := in_int h1 k; omega
      · exact k
theorem one_only {p x : Bk} (h : covB p x = true) (hb : ¬ p.2 < 128) : x = p := by
  by_cases e : x = p
  · exact e
  · exact absurd (cov_half h e).1 hb
theorem can_full : ∀ (k : Nat) (p : Bk) (M : List Bk), sndB p = true → 128 - p.2.toNat ≤ k → CanL p M → (∀ a, hasB p a = true → inL M a) → M = [p]
  | k, p, M, hs, hk, hM, hf => by
    by_cases hp : p ∈ M
    · exact ord_whole hM.1 hp
    · exfalso
      by_cases hb : p.2 < 128
      · obtain ⟨f1, f2, f3, f4, f5⟩ := half_all hs hb
        obtain ⟨g1, g2⟩ := snd_iff.1 hs
        obtain ⟨h1, h2⟩ := ord_split hM.1 hp hb hs
        have c1 := cov_low hs hb
        cases k with
        | zero => omega
        | succ k =>
          have e1 := can_full k (lowB p) _ f1 (by rw [low_2]; omega) ⟨h1, hM.2.sublist (below_sub _ _)⟩ (fun a ha => by
            refine (split_in hM.1 hp hb hs a).1.2 ⟨hf a (covers_has c1.1 ha), ?_⟩
            have := (has_int f1).1 ha
            omega)
          have e2 := can_full k (highB p) _ f2 (by rw [high_2]; omega) ⟨h2, hM.2.sublist (from_sub _ _)⟩ (fun a ha => by
            refine (split_in hM.1 hp hb hs a).2.2 ⟨hf a (covers_has c1.2 ha), ?_⟩
            have := (has_int f2).1 ha
            omega)
          have e := below_from M (highB p).1
          rw [e1, e2] at e
          have hp2 := hM.2
          rw [← e] at hp2
          have := (List.pairwise_cons.1 hp2).1 (highB p) (by simp)
          rw [(sib_iff f1 f2 (by omega)).2 ⟨p, hs, hb, rfl, rfl⟩] at this
          cases this
      · obtain ⟨x, hx, _⟩ := hf p.1 (has_self hs)
        exact hp (one_only (hM.1.1 x hx) hb ▸ hx)
/-- a set of addresses has one list -/
theorem can_ext : ∀ (k : Nat) (p : Bk) (L M : List Bk), sndB p = true → 128 - p.2.toNat ≤ k → CanL p L → CanL p M → (∀ a, inL L a ↔ inL M a) → L = M
  | k, p, L, M, hs, hk, hL, hM, he => by
    by_cases hp : p ∈ L
    · have e := ord_whole hL.1 hp
      rw [e, can_full k p M hs hk hM (fun a ha => (he a).1 (by rw [e]; exact inL_one.2 ha))]
    by_cases hq : p ∈ M
    · have e := ord_whole hM.1 hq
      rw [e, can_full k p L hs hk hL (fun a ha => (he a).2 (by rw [e]; exact inL_one.2 ha))]
    by_cases hb : p.2 < 128
    · obtain ⟨f1, f2, f3, f4, f5⟩ := half_all hs hb
      obtain ⟨g1, g2⟩ := snd_iff.1 hs
      obtain ⟨h1, h2⟩ := ord_split hL.1 hp hb hs
      obtain ⟨h3, h4⟩ := ord_split hM.1 hq hb hs
      cases k with
      | zero => omega
      | succ k =>
        have e1 := can_ext k (lowB p) _ _ f1 (by rw [low_2]; omega) ⟨h1, hL.2.sublist (below_sub _ _)⟩ ⟨h3, hM.2.sublist (below_sub _ _)⟩ (fun a => by
          rw [(split_in hL.1 hp hb hs a).1, (split_in hM.1 hq hb hs a).1, he])
        have e2 := can_ext k (highB p) _ _ f2 (by rw [high_2]; omega) ⟨h2, hL.2.sublist (from_sub _ _)⟩ ⟨h4, hM.2.sublist (from_sub _ _)⟩ (fun a => by
          rw [(split_in hL.1 hp hb hs a).2, (split_in hM.1 hq hb hs a).2, he])
        rw [← below_from L (highB p).1, ← below_from M (highB p).1, e1, e2]
    · have nl : ∀ N : List Bk, CanL p N → p ∉ N → N = [] := fun N hN hn => by
        cases N with
        | nil => rfl
        | cons x r =>
          exact absurd (one_only (hN.1.1 x (by simp)) hb ▸ (by simp : x ∈ x :: r)) hn
      rw [nl L hL hp, nl M hM hq]
theorem can_eq {p : Bk} {L M : List Bk} (hs : sndB p = true) (hL : CanL p L) (hM : CanL p M) (h : ∀ a, inL L a ↔ inL M a) : L = M := can_ext _ p L M hs (Nat.le_refl _) hL hM h
theorem can_concat {p : Bk} {L M : List Bk} (hs : sndB p = true) (hb : p.2 < 128) (hL : CanL (lowB p) L) (hM : CanL (highB p) M) (hne : ¬ (L = [lowB p] ∧ M = [highB p])) : CanL p (L ++ M) := by
  obtain ⟨f1, f2, f3, f4, f5⟩ := half_all hs hb
  obtain ⟨c1, c2⟩ := cov_low hs hb
  have e3 := low_1 p
  refine ⟨⟨fun x hx => ?_, ?_⟩, ?_⟩
  · rcases List.mem_append.1 hx with k | k
    · exact cov_trans c1 (hL.1.1 x k)
    · exact cov_trans c2 (hM.1.1 x k)
  · rw [List.pairwise_append]
    refine ⟨hL.1.2, hM.1.2, fun x hx y hy => ?_⟩
    have a := cov_iff.1 (hL.1.1 x hx)
    have b := cov_iff.1 (hM.1.1 y hy)
    omega
  · rw [List.pairwise_append]
    refine ⟨hL.2, hM.2, fun x hx y hy => ?_⟩
    have a := cov_iff.1 (hL.1.1 x hx)
    have b := cov_iff.1 (hM.1.1 y hy)
    cases hsb : sibB x y with
    | false => rfl
    | true =>
      exfalso
      obtain ⟨q, q1, q2, rfl, rfl⟩ := (sib_iff a.2.1 b.2.1 (by omega)).1 hsb
      obtain ⟨g1, g2, g3, g4, g5⟩ := half_all q1 q2
      have e4 := low_1 q
      have cq : covB p q = true := cov_iff.2 ⟨hs, q1, by omega, by omega⟩
      by_cases e : q = p
      · subst e
        exact hne ⟨ord_whole hL.1 hx, ord_whole hM.1 hy⟩
      · have u1 := end_pos (lowB q)
        have u2 := end_pos (highB q)
        rcases (cov_half cq e).2 with k | k
        · have := cov_iff.1 k; omega
        · have := cov_iff.1 k; omega
end Go.Proofs.Ytpieddddckbfdaa
