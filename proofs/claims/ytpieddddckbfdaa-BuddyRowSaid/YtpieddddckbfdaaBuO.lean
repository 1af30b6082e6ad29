/-
  What buddy's functions answer as whole calls: which lists are free blocks, which block is taken, what is free then; the document's own half by half. No program is named here. No condition beyond those in each theorem's own statement.
-/
import Derived.Test.YtpieddddckbfdaaBuN
namespace Go.Proofs.Ytpieddddckbfdaa
open Go

/-! ### free blocks of a prefix -/
def apartB (x y : Bk) : Bool := decide (x.1 < y.1) && (!metB x y && !sibB x y)
def adjB : List Bk → Bool
  | x :: y :: r => apartB x y && adjB (y :: r)
  | _ => true
def goodL (p : Bk) (L : List Bk) : Bool := sndB p && (L.all (covB p) && adjB L)
theorem apart_iff {x y : Bk} (hx : sndB x = true) (hy : sndB y = true) : apartB x y = true ↔ endB x ≤ y.1 ∧ sibB x y = false := by
  unfold apartB
  rw [Bool.and_eq_true, Bool.and_eq_true, decide_eq_true_iff, Bool.not_eq_true', Bool.not_eq_true', met_no hx hy]
  have := end_pos x
  have := end_pos y
  constructor
  · rintro ⟨h1, h2, h3⟩
    exact ⟨by omega, h3⟩
  · rintro ⟨h1, h2⟩
    exact ⟨by omega, Or.inl h1, h2⟩
theorem adj_can {p : Bk} : ∀ {L : List Bk}, (∀ x ∈ L, covB p x = true) → (adjB L = true ↔ CanL p L)
  | [], h => by simp [adjB, can_nil]
  | [x], h => by
    refine ⟨fun _ => can_one (h x (by simp)), fun _ => rfl⟩
  | x :: y :: r, h => by
    have hx := (cov_iff.1 (h x (by simp))).2.1
    have hy := (cov_iff.1 (h y (by simp))).2.1
    have ih := adj_can (p := p) (L := y :: r) (fun z hz => h z (by simp [hz]))
    unfold adjB
    rw [Bool.and_eq_true, ih, apart_iff hx hy]
    constructor
    · rintro ⟨⟨h1, h2⟩, ⟨h3, h4⟩, h5⟩
      have h6 := List.pairwise_cons.1 h4
      refine ⟨⟨h, List.pairwise_cons.2 ⟨fun z hz => ?_, h4⟩⟩, List.pairwise_cons.2 ⟨fun z hz => ?_, h5⟩⟩
      · rcases List.mem_cons.1 hz with e | e
        · rw [e]; exact h1
        · have := h6.1 z e; have := end_pos y; omega
      · rcases List.mem_cons.1 hz with e | e
        · rw [e]; exact h2
        · have k := h6.1 z e
          have hz' := (cov_iff.1 (h z (by simp [e]))).2.1
          have ey := end_pos y
          cases hsb : sibB x z with
          | false => rfl
          | true =>
            exfalso
            obtain ⟨q, q1, q2, e1, e2⟩ := (sib_iff hx hz' (by omega)).1 hsb
            have : endB x = z.1 := by rw [e1, e2]; exact (half_all q1 q2).2.2.1
            omega
    · rintro ⟨⟨h3, h4⟩, h5⟩
      have h6 := List.pairwise_cons.1 h4
      have h7 := List.pairwise_cons.1 h5
      exact ⟨⟨h6.1 y (by simp), h7.1 y (by simp)⟩, ⟨fun z hz => h z (by simp [hz]), h6.2⟩, h7.2⟩
theorem good_iff {p : Bk} {L : List Bk} : goodL p L = true ↔ sndB p = true ∧ CanL p L := by
  unfold goodL
  rw [Bool.and_eq_true, Bool.and_eq_true, List.all_eq_true]
  constructor
  · rintro ⟨h1, h2, h3⟩
    exact ⟨h1, (adj_can h2).1 h3⟩
  · rintro ⟨h1, h2⟩
    exact ⟨h1, h2.1.1, (adj_can h2.1.1).2 h2⟩
/-- the same, place by place -/
def goodAt (p : Bk) (L : List Bk) (k : Nat) : Bool := covB p (L.getD k (0, 0)) && (decide (k = 0) || apartB (L.getD (k - 1) (0, 0)) (L.getD k (0, 0)))
theorem adj_at : ∀ {L : List Bk}, adjB L = true ↔ ∀ k, k + 1 < L.length → apartB (L.getD k (0, 0)) (L.getD (k + 1) (0, 0)) = true
  | [] => by simp [adjB]
  | [x] => by simp [adjB]
  | x :: y :: r => by
    unfold adjB
    rw [Bool.and_eq_true, adj_at (L := y :: r)]
    constructor
    · rintro ⟨h1, h2⟩ k hk
      cases k with
      | zero => simpa using h1
      | succ k => simpa using h2 k (by simpa using hk)
    · intro h
      refine ⟨by simpa using h 0 (by simp), fun k hk => ?_⟩
      have := h (k + 1) (by simpa using hk)
      simpa using this
theorem good_at {p : Bk} {L : List Bk} : (L.all (covB p) && adjB L) = true ↔ ∀ k, k < L.length → goodAt p L k = true := by
  rw [Bool.and_eq_true, List.all_eq_true, adj_at]
  constructor
  · rintro ⟨h1, h2⟩ k hk
    unfold goodAt
    rw [Bool.and_eq_true]
    refine ⟨?_, ?_⟩
    · rw [List.getD_eq_getElem?_getD, List.getElem?_eq_getElem hk]
      exact h1 _ (List.getElem_mem hk)
    · cases k with
      | zero => rfl
      | succ k =>
        rw [Nat.add_sub_cancel, h2 k hk, Bool.or_true]
  · intro h
    refine ⟨fun x hx => ?_, fun k hk => ?_⟩
    · obtain ⟨k, hk, rfl⟩ := List.getElem_of_mem hx
      have := h k hk
      unfold goodAt at this
      rw [Bool.and_eq_true, List.getD_eq_getElem?_getD, List.getElem?_eq_getElem hk] at this
      exact this.1
    · have := h (k + 1) hk
      unfold goodAt at this
      rw [Bool.and_eq_true] at this
      have h2 := this.2
      rw [decide_eq_false (by omega), Bool.false_or] at h2
      exact h2

/-! ### which block is taken -/
def better (L : List Bk) (bits : Int) (k : Nat) (o : Option Nat) : Bool := decide ((L.getD k (0, 0)).2 ≤ bits) && (match o with
  | none => true
  | some j => decide ((L.getD j (0, 0)).2 < (L.getD k (0, 0)).2))
def bestL (L : List Bk) (bits : Int) : Nat → Option Nat
  | 0 => none
  | k + 1 => if better L bits k (bestL L bits k) then some k else bestL L bits k
theorem best_some {L : List Bk} {bits : Int} : ∀ {k j : Nat}, bestL L bits k = some j → j < k ∧ (L.getD j (0, 0)).2 ≤ bits
  | 0, j, h => by cases h
  | k + 1, j, h => by
    unfold bestL at h
    split at h
    · rename_i hb
      cases h
      unfold better at hb
      rw [Bool.and_eq_true, decide_eq_true_iff] at hb
      exact ⟨by omega, hb.1⟩
    · have := best_some h
      exact ⟨by omega, this.2⟩
theorem best_none {L : List Bk} {bits : Int} : ∀ {k : Nat}, bestL L bits k = none → ∀ j, j < k → ¬ (L.getD j (0, 0)).2 ≤ bits
  | 0, h, j, hj => by omega
  | k + 1, h, j, hj => by
    unfold bestL at h
    split at h
    · cases h
    · rename_i hb
      rw [h] at hb
      unfold better at hb
      simp only [Bool.and_true, decide_eq_true_iff] at hb
      by_cases e : j = k
      · rw [e]; exact hb
      · exact best_none h j (by omega)
def fitsL (L : List Bk) (bits : Int) : Bool := L.any (fun x => decide (x.2 ≤ bits))
theorem getD_mem {L : List Bk} {j : Nat} (h : j < L.length) : L[j]? = some (L.getD j (0, 0)) := by
  rw [List.getD_eq_getElem?_getD, List.getElem?_eq_getElem h]; rfl
theorem fits_best (L : List Bk) (bits : Int) : fitsL L bits = (bestL L bits L.length).isSome := by
  cases h : bestL L bits L.length with
  | none =>
    unfold fitsL
    rw [Option.isSome_none, List.any_eq_false]
    intro x hx
    obtain ⟨k, hk, rfl⟩ := List.getElem_of_mem hx
    have := best_none h k hk
    rw [List.getD_eq_getElem?_getD, List.getElem?_eq_getElem hk] at this
    simpa using this
  | some j =>
    obtain ⟨h1, h2⟩ := best_some h
    unfold fitsL
    rw [Option.isSome_some, List.any_eq_true]
    exact ⟨L.getD j (0, 0), List.mem_of_getElem? (getD_mem h1), by simpa using h2⟩

/-! ### the calls -/
abbrev Ans := List Bk × Int
def takeL (p : Bk) (L : List Bk) (bits : Int) : List Bk × Bk × Int :=
  if goodL p L && (decide (p.2 ≤ bits) && decide (bits ≤ 128)) then
    match bestL L bits L.length with
    | none => ([], (0, 0), 110)
    | some j => (withoutL L j (L.getD j (0, 0)) ((L.getD j (0, 0)).1, bits), ((L.getD j (0, 0)).1, bits), 0)
  else ([], (0, 0), 1)
def findC (b : Bk) (L : List Bk) : Option Nat := L.findIdx? (fun x => covB x b)
def reserveL (p : Bk) (L : List Bk) (b : Bk) : Ans :=
  if goodL p L && covB p b then
    match findC b L with
    | none => ([], 110)
    | some j => (withoutL L j (L.getD j (0, 0)) b, 0)
  else ([], 1)
def anyM (L : List Bk) (b : Bk) : Bool := L.any (fun x => metB x b)
def anyC (L : List Bk) (b : Bk) : Bool := L.any (fun x => covB x b)
def placeN (L : List Bk) (a : Nat) : Nat := (belowL L a).length
def giveL (p : Bk) (L : List Bk) (b : Bk) : Ans :=
  if goodL p L && covB p b then
    if anyM L b then ([], 110) else (growL 130 L (placeN L b.1) b (placeN L b.1), 0)
  else ([], 1)
def metsL : List Bk → Bool
  | [] => false
  | x :: r => r.any (metB x) || metsL r
def insB (x : Bk) : List Bk → List Bk
  | [] => [x]
  | y :: r => if x.1 ≤ y.1 then x :: y :: r else y :: insB x r
def sortB : List Bk → List Bk
  | [] => []
  | x :: r => insB x (sortB r)
def freeL (p : Bk) (L : List Bk) : Ans :=
  if sndB p && L.all (covB p) then
    if metsL L then ([], 110) else (carveL 129 p (sortB L), 0)
  else ([], 1)

theorem find_some {b : Bk} {L : List Bk} {j : Nat} (h : findC b L = some j) : j < L.length ∧ covB (L.getD j (0, 0)) b = true := by
  unfold findC at h
  obtain ⟨hj, h1, _⟩ := List.findIdx?_eq_some_iff_getElem.1 h
  refine ⟨hj, ?_⟩
  rw [List.getD_eq_getElem?_getD, List.getElem?_eq_getElem hj]
  exact h1
theorem find_none {b : Bk} {L : List Bk} : findC b L = none ↔ anyC L b = false := by
  unfold findC anyC
  rw [List.findIdx?_eq_none_iff, List.any_eq_false]
  simp
theorem take_low {x : Bk} {bits : Int} (sx : sndB x = true) (h1 : x.2 ≤ bits) (h2 : bits ≤ 128) : covB x (x.1, bits) = true := by
  obtain ⟨⟨g0, g1⟩, hc⟩ := snd_iff.1 sx
  have hd := clip_dvd hc
  have hs : sndB (x.1, bits) = true := snd_iff.2 ⟨by simp only; omega, dvd_clip (Nat.dvd_trans ⟨2 ^ (bits.toNat - x.2.toNat), by rw [← Nat.pow_add]; congr 1; simp only; omega⟩ hd)⟩
  refine cov_iff.2 ⟨sx, hs, Nat.le_refl _, ?_⟩
  unfold endB szB
  have := pow_le (k := 128 - bits.toNat) (n := 128 - x.2.toNat) (by omega)
  simp only
  omega
/-- what is answered where it is OK: the one list of a set of addresses -/
structure IsFree (p : Bk) (L : List Bk) (S : Nat → Prop) (sum len : Nat) : Prop where
  can : CanL p L
  mem : ∀ a, inL L a ↔ S a
  sum : sumB L = sum
  len : L.length ≤ len
theorem take_spec {p : Bk} {L : List Bk} {bits : Int} (hg : goodL p L = true) (h1 : p.2 ≤ bits) (h2 : bits ≤ 128) {j : Nat} (hb : bestL L bits L.length = some j) :
    takeL p L bits = (withoutL L j (L.getD j (0, 0)) ((L.getD j (0, 0)).1, bits), ((L.getD j (0, 0)).1, bits), 0) ∧ covB p ((L.getD j (0, 0)).1, bits) = true ∧ covB (L.getD j (0, 0)) ((L.getD j (0, 0)).1, bits) = true ∧ L[j]? = some (L.getD j (0, 0)) ∧
    IsFree p (withoutL L j (L.getD j (0, 0)) ((L.getD j (0, 0)).1, bits)) (fun a => inL L a ∧ ¬ hasB ((L.getD j (0, 0)).1, bits) a = true) (sumB L - szB ((L.getD j (0, 0)).1, bits)) (L.length + 128) ∧ szB ((L.getD j (0, 0)).1, bits) ≤ sumB L := by
  obtain ⟨k1, k2⟩ := best_some hb
  obtain ⟨sp, hc⟩ := good_iff.1 hg
  have hx := getD_mem k1
  have cx := hc.1.1 _ (List.mem_of_getElem? hx)
  have ct := take_low (cov_iff.1 cx).2.1 k2 h2
  obtain ⟨w1, w2, w3, w4⟩ := without_spec hc hx ct
  refine ⟨?_, cov_trans cx ct, ct, hx, ⟨w1, w2, by omega, w4⟩, by omega⟩
  unfold takeL
  rw [hg, decide_eq_true h1, decide_eq_true h2, hb]
  rfl
theorem reserve_spec {p b : Bk} {L : List Bk} (hg : goodL p L = true) {j : Nat} (hf : findC b L = some j) :
    IsFree p (withoutL L j (L.getD j (0, 0)) b) (fun a => inL L a ∧ ¬ hasB b a = true) (sumB L - szB b) (L.length + 128) := by
  obtain ⟨k1, k2⟩ := find_some hf
  obtain ⟨sp, hc⟩ := good_iff.1 hg
  obtain ⟨w1, w2, w3, w4⟩ := without_spec hc (getD_mem k1) k2
  exact ⟨w1, w2, by omega, w4⟩
theorem take_place (L : List Bk) (a : Nat) : L.take (placeN L a) = belowL L a ∧ L.drop (placeN L a) = fromL L a := by
  have e := below_from L a
  unfold placeN
  generalize belowL L a = B at *
  generalize fromL L a = F at *
  subst e
  exact ⟨List.take_left, List.drop_left⟩
theorem place_le (L : List Bk) (a : Nat) : placeN L a ≤ L.length := (below_sub L a).length_le
theorem give_ord {p b : Bk} {L : List Bk} (hc : OrdL p L) (hb : covB p b = true) (hm : anyM L b = false) : OrdL p (belowL L b.1 ++ b :: fromL L b.1) := by
  have sb := (cov_iff.1 hb).2.1
  have e := below_from L b.1
  have hm' : ∀ x ∈ L, metB x b = false := by
    intro x hx
    unfold anyM at hm
    rw [List.any_eq_false] at hm
    simpa using hm x hx
  have hbl : ∀ x ∈ belowL L b.1, endB x ≤ b.1 := fun x hx => by
    have hx' := (below_sub L b.1).subset hx
    have := below_lt hx
    have sx := (cov_iff.1 (hc.1 x hx')).2.1
    have := (met_no sx sb).1 (hm' x hx')
    have := end_pos b
    omega
  have hfr : ∀ x ∈ fromL L b.1, endB b ≤ x.1 := fun x hx => by
    have hx' := (from_sub L b.1).subset hx
    have := from_ge (ord_rise hc) x hx
    have sx := (cov_iff.1 (hc.1 x hx')).2.1
    have := (met_no sx sb).1 (hm' x hx')
    have := end_pos x
    omega
  have hp := hc.2
  rw [← e, List.pairwise_append] at hp
  refine ⟨fun x hx => ?_, ?_⟩
  · rcases List.mem_append.1 hx with k | k
    · exact hc.1 x ((below_sub L b.1).subset k)
    · rcases List.mem_cons.1 k with k | k
      · rw [k]; exact hb
      · exact hc.1 x ((from_sub L b.1).subset k)
  · rw [List.pairwise_append]
    refine ⟨hp.1, List.pairwise_cons.2 ⟨hfr, hp.2.1⟩, fun x hx y hy => ?_⟩
    rcases List.mem_cons.1 hy with k | k
    · rw [k]; exact hbl x hx
    · exact hp.2.2 x hx y k
theorem give_spec {p b : Bk} {L : List Bk} (hg : goodL p L = true) (hb : covB p b = true) (hm : anyM L b = false) :
    IsFree p (growL 130 L (placeN L b.1) b (placeN L b.1)) (fun a => inL L a ∨ hasB b a = true) (sumB L + szB b) (L.length + 1) := by
  obtain ⟨sp, hc⟩ := good_iff.1 hg
  have sb := (cov_iff.1 hb).2.1
  obtain ⟨⟨z0, z1⟩, _⟩ := snd_iff.1 sb
  obtain ⟨t1, t2⟩ := take_place L b.1
  have e := below_from L b.1
  have ho := give_ord hc.1 hb hm
  have hn := hc.2
  rw [← e] at hn
  rw [← t1, ← t2] at ho hn
  obtain ⟨g1, g2, g3, g4⟩ := grow_spec 130 L _ b _ (by omega) ho hn (place_le L b.1)
  rw [t1, t2] at g2 g3 g4
  refine ⟨g1, fun a => ?_, ?_, ?_⟩
  · rw [g2]
    conv => rhs; rw [← e]
    rw [inL_append]
    constructor
    · rintro (h | h | h)
      · exact Or.inl (Or.inl h)
      · exact Or.inr h
      · exact Or.inl (Or.inr h)
    · rintro ((h | h) | h)
      · exact Or.inl h
      · exact Or.inr (Or.inr h)
      · exact Or.inr (Or.inl h)
  · rw [g3]
    have := sumB_append (belowL L b.1) (fromL L b.1)
    rw [e] at this
    omega
  · have := congrArg List.length e
    rw [List.length_append] at this
    omega

/-! ### sorting -/
theorem ins_perm (x : Bk) : ∀ L : List Bk, (insB x L).Perm (x :: L)
  | [] => List.Perm.refl _
  | y :: r => by
    unfold insB
    split
    · exact List.Perm.refl _
    · exact ((ins_perm x r).cons y).trans (List.Perm.swap x y r)
theorem sort_perm : ∀ L : List Bk, (sortB L).Perm L
  | [] => List.Perm.refl _
  | x :: r => (ins_perm x _).trans ((sort_perm r).cons x)
theorem ins_rise {x : Bk} : ∀ {L : List Bk}, L.Pairwise (fun a b => a.1 ≤ b.1) → (insB x L).Pairwise (fun a b => a.1 ≤ b.1)
  | [], _ => List.pairwise_singleton _ _
  | y :: r, h => by
    have h' := List.pairwise_cons.1 h
    unfold insB
    split
    · rename_i hle
      refine List.pairwise_cons.2 ⟨fun z hz => ?_, h⟩
      rcases List.mem_cons.1 hz with e | e
      · rw [e]; exact hle
      · exact Nat.le_trans hle (h'.1 z e)
    · rename_i hle
      refine List.pairwise_cons.2 ⟨fun z hz => ?_, ins_rise h'.2⟩
      rcases List.mem_cons.1 ((ins_perm x r).subset hz) with e | e
      · rw [e]; omega
      · exact h'.1 z e
theorem sort_rise : ∀ L : List Bk, (sortB L).Pairwise (fun a b => a.1 ≤ b.1)
  | [] => List.Pairwise.nil
  | _ :: r => ins_rise (sort_rise r)
theorem mets_iff : ∀ {L : List Bk}, metsL L = false ↔ L.Pairwise (fun x y => metB x y = false)
  | [] => by simp [metsL]
  | x :: r => by
    unfold metsL
    rw [Bool.or_eq_false_iff, List.pairwise_cons, mets_iff (L := r), List.any_eq_false]
    simp
theorem mets_perm {L M : List Bk} (h : L.Perm M) : metsL L = metsL M := by
  rw [Bool.eq_iff_iff, ← Bool.not_eq_false, ← Bool.not_eq_false, mets_iff, mets_iff]
  rw [h.pairwise_iff (fun {x y} k => by rw [met_comm]; exact k)]
theorem ord_of {p : Bk} {L : List Bk} (hc : ∀ x ∈ L, covB p x = true) (hr : L.Pairwise (fun a b => a.1 ≤ b.1)) (hm : metsL L = false) : OrdL p L := by
  refine ⟨hc, ?_⟩
  have := hr.and (mets_iff.1 hm)
  refine List.Pairwise.imp_of_mem (fun {x y} hx hy h => ?_) this
  have a := (met_no (cov_iff.1 (hc x hx)).2.1 (cov_iff.1 (hc y hy)).2.1).1 h.2
  have := end_pos y
  omega
theorem ord_perm {p : Bk} : ∀ {L M : List Bk}, OrdL p L → OrdL p M → L.Perm M → L = M
  | [], M, _, _, h => by rw [List.nil_perm.1 h]
  | x :: r, [], _, _, h => by have := h.length_eq; simp at this
  | x :: r, y :: s, hL, hM, h => by
    have l := List.pairwise_cons.1 hL.2
    have m := List.pairwise_cons.1 hM.2
    have ex := end_pos x
    have ey := end_pos y
    have e : x = y := by
      rcases List.mem_cons.1 (h.subset (by simp : x ∈ x :: r)) with e | e
      · exact e
      · rcases List.mem_cons.1 (h.symm.subset (by simp : y ∈ y :: s)) with e2 | e2
        · exact e2.symm
        · have := l.1 y e2; have := m.1 x e; omega
    subst e
    rw [ord_perm ⟨fun z hz => hL.1 z (by simp [hz]), l.2⟩ ⟨fun z hz => hM.1 z (by simp [hz]), m.2⟩ (h.cons_inv)]
theorem sort_ord {p : Bk} {L : List Bk} (hc : ∀ x ∈ L, covB p x = true) (hm : metsL L = false) : OrdL p (sortB L) :=
  ord_of (fun x hx => hc x ((sort_perm L).subset hx)) (sort_rise L) (by rw [mets_perm (sort_perm L)]; exact hm)
theorem sumB_perm {L M : List Bk} (h : L.Perm M) : sumB L = sumB M := by
  induction h with
  | nil => rfl
  | cons x _ ih => simp only [sumB]; omega
  | swap x y l => simp only [sumB]; omega
  | trans _ _ ih1 ih2 => omega
theorem inL_perm {L M : List Bk} (h : L.Perm M) (a : Nat) : inL L a ↔ inL M a :=
  ⟨fun ⟨x, hx, k⟩ => ⟨x, h.subset hx, k⟩, fun ⟨x, hx, k⟩ => ⟨x, h.symm.subset hx, k⟩⟩
theorem free_spec {p : Bk} {L : List Bk} (sp : sndB p = true) (hc : ∀ x ∈ L, covB p x = true) (hm : metsL L = false) :
    IsFree p (carveL 129 p (sortB L)) (fun a => hasB p a = true ∧ ¬ inL L a) (szB p - sumB L) (128 * L.length + 1) ∧ sumB L ≤ szB p := by
  obtain ⟨⟨z0, z1⟩, _⟩ := snd_iff.1 sp
  obtain ⟨c1, c2, c3, c4⟩ := carve_spec 129 p _ sp (by omega) (sort_ord hc hm)
  rw [sumB_perm (sort_perm L)] at c3
  rw [(sort_perm L).length_eq] at c4
  refine ⟨⟨c1, fun a => ?_, by omega, ?_⟩, by omega⟩
  · rw [c2, inL_perm (sort_perm L)]
  · have := Nat.mul_le_mul_right L.length (show 128 - p.2.toNat ≤ 128 by omega)
    omega
/-- what the program finds of the neighbours in a sorted list -/
theorem adj_mets {p : Bk} : ∀ {R : List Bk}, (∀ x ∈ R, covB p x = true) → R.Pairwise (fun a b => a.1 ≤ b.1) → (∀ j, j + 1 < R.length → metB (R.getD j (0, 0)) (R.getD (j + 1) (0, 0)) = false) → OrdL p R
  | [], _, _, _ => (can_nil p).1
  | [x], hc, _, _ => (can_one (hc x (by simp))).1
  | x :: y :: r, hc, hr, hm => by
    have h' := List.pairwise_cons.1 hr
    have ih := adj_mets (R := y :: r) (fun z hz => hc z (by simp [hz])) h'.2 (fun j hj => by
      have := hm (j + 1) (by simpa using hj)
      simpa using this)
    have i' := List.pairwise_cons.1 ih.2
    have a := (met_no (cov_iff.1 (hc x (by simp))).2.1 (cov_iff.1 (hc y (by simp))).2.1).1 (by simpa using hm 0 (by simp))
    have b := h'.1 y (by simp)
    have ey := end_pos y
    refine ⟨hc, List.pairwise_cons.2 ⟨fun z hz => ?_, ih.2⟩⟩
    rcases List.mem_cons.1 hz with e | e
    · rw [e]; omega
    · have := i'.1 z e; omega
theorem ord_mets {p : Bk} {R : List Bk} (h : OrdL p R) : metsL R = false := by
  rw [mets_iff]
  refine List.Pairwise.imp_of_mem (fun {x y} hx hy k => ?_) h.2
  exact (met_no (cov_iff.1 (h.1 x hx)).2.1 (cov_iff.1 (h.1 y hy)).2.1).2 (Or.inl k)
theorem mets_pair {R : List Bk} {i j : Nat} (hij : i < j) (hj : j < R.length) (h : metB (R.getD i (0, 0)) (R.getD j (0, 0)) = true) : metsL R = true := by
  cases e : metsL R with
  | true => rfl
  | false =>
    have := List.pairwise_iff_getElem.1 (mets_iff.1 e) i j (by omega) hj hij
    rw [List.getD_eq_getElem?_getD, List.getD_eq_getElem?_getD, List.getElem?_eq_getElem hj, List.getElem?_eq_getElem (show i < R.length by omega)] at h
    simp only [Option.getD_some] at h
    rw [this] at h
    cases h
end Go.Proofs.Ytpieddddckbfdaa
