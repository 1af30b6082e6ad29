/-
  Options as bytes: mathematics of opt4: how areas are gathered, how a list is written, and that the one is the other's way back. No program is named here. No condition beyond those in each theorem's own statement.
-/
import Derived.WalkKit
namespace Go.Proofs.Ytmoklodaeicpgaa
open Go

abbrev Opt := UInt8 × ByteArray
abbrev bs (l : List UInt8) : ByteArray := ⟨l.toArray⟩
abbrev lb (s : ByteArray) : List UInt8 := s.data.toList
theorem bs_lb (s : ByteArray) : bs (lb s) = s := by cases s; simp [lb]
theorem lb_bs (l : List UInt8) : lb (bs l) = l := by simp [lb]
theorem lb_len (s : ByteArray) : (lb s).length = s.size := Array.length_toList
theorem bs_size (l : List UInt8) : (bs l).size = l.length := by simp [ByteArray.size]

/-! ### what is gathered -/
abbrev Gs := List (UInt8 × List UInt8)
def gdat : Gs → UInt8 → Option (List UInt8)
  | [], _ => none
  | x :: r, c => if x.1 = c then some x.2 else gdat r c
def gput : Gs → UInt8 → List UInt8 → Gs
  | [], c, p => [(c, p)]
  | x :: r, c, p => if x.1 = c then (c, x.2 ++ p) :: r else x :: gput r c p
def gold (S : Gs) (c : UInt8) : List UInt8 := (gdat S c).getD []
def addG (S : Gs) (c : UInt8) (p : List UInt8) : Option Gs := if 4096 < (gold S c).length + p.length ∨ (gdat S c = none ∧ S.length = 128) then none else some (gput S c p)
theorem gdat_none {S : Gs} {c : UInt8} : gdat S c = none ↔ c ∉ S.map (·.1) := by
  induction S with
  | nil => simp [gdat]
  | cons x r ih =>
    unfold gdat
    by_cases h : x.1 = c
    · rw [if_pos h]; simp [h]
    · rw [if_neg h, ih]; simp; intro _; exact fun e => h e.symm
theorem gput_new {S : Gs} {c : UInt8} (h : gdat S c = none) (p : List UInt8) : gput S c p = S ++ [(c, p)] := by
  induction S with
  | nil => rfl
  | cons x r ih =>
    unfold gdat at h
    by_cases e : x.1 = c
    · rw [if_pos e] at h; cases h
    · rw [if_neg e] at h
      unfold gput
      rw [if_neg e, ih h]; rfl
theorem gput_old {S : Gs} {c : UInt8} {d : List UInt8} (h : gdat S c = some d) (p : List UInt8) : (gput S c p).map (·.1) = S.map (·.1) := by
  induction S with
  | nil => cases h
  | cons x r ih =>
    unfold gdat at h
    unfold gput
    by_cases e : x.1 = c
    · rw [if_pos e]; simp [e]
    · rw [if_neg e] at h ⊢
      rw [List.map_cons, List.map_cons, ih h]
theorem gdat_gput (S : Gs) (c : UInt8) (p : List UInt8) (c2 : UInt8) : gdat (gput S c p) c2 = if c2 = c then some (gold S c ++ p) else gdat S c2 := by
  unfold gold
  induction S with
  | nil =>
    simp only [gput, gdat]
    by_cases e : c = c2
    · subst e; simp
    · rw [if_neg e, if_neg (fun h => e h.symm)]
  | cons x r ih =>
    simp only [gput, gdat]
    by_cases e : x.1 = c
    · rw [if_pos e]
      simp only [gdat]
      by_cases e2 : c = c2
      · subst e2; simp [e]
      · rw [if_neg e2, if_neg (fun h => e2 h.symm), if_neg (by rw [e]; exact e2)]
    · rw [if_neg e]
      simp only [gdat]
      rw [ih, if_neg e]
      by_cases e2 : x.1 = c2
      · rw [if_pos e2, if_pos e2, if_neg (fun h => e (by rw [e2, h]))]
      · rw [if_neg e2, if_neg e2]
theorem gput_gput (S : Gs) (c : UInt8) (p q : List UInt8) : gput (gput S c p) c q = gput S c (p ++ q) := by
  induction S with
  | nil => simp [gput]
  | cons x r ih =>
    by_cases e : x.1 = c
    · simp [gput, e]
    · simp [gput, e, ih]
theorem gput_len (S : Gs) (c : UInt8) (p : List UInt8) : (gput S c p).length = if gdat S c = none then S.length + 1 else S.length := by
  cases h : gdat S c with
  | none => rw [gput_new h]; simp
  | some d =>
    have := congrArg List.length (gput_old h p)
    simpa using this
theorem gold_gput (S : Gs) (c : UInt8) (p : List UInt8) : gold (gput S c p) c = gold S c ++ p := by
  unfold gold
  rw [gdat_gput, if_pos rfl]; rfl
theorem add_add {S S1 : Gs} {c : UInt8} {p q : List UInt8} (h : addG S c p = some S1) : addG S1 c q = addG S c (p ++ q) := by
  unfold addG at h
  split at h
  · cases h
  · rename_i hn
    cases h
    unfold addG
    rw [gold_gput, gput_gput, gdat_gput, if_pos rfl]
    simp only [List.length_append, reduceCtorEq, false_and, or_false]
    have : ¬(gdat S c = none ∧ S.length = 128) := fun h => hn (Or.inr h)
    by_cases h : 4096 < (gold S c).length + (p.length + q.length)
    · rw [if_pos (by omega), if_pos (Or.inl h)]
    · rw [if_neg (by omega), if_neg (by rintro (h' | h'); exact h h'; exact this h')]
theorem add_part {S S2 : Gs} {c : UInt8} {p q : List UInt8} (h : addG S c (p ++ q) = some S2) : ∃ S1, addG S c p = some S1 := by
  unfold addG at h
  split at h
  · cases h
  · rename_i hn
    refine ⟨gput S c p, if_neg ?_⟩
    rintro (h' | h')
    · exact hn (Or.inl (by rw [List.length_append]; omega))
    · exact hn (Or.inr h')

/-! ### an area that is read -/
def readL : Nat → List UInt8 → Gs → Nat × Gs
  | 0, _, S => (0, S)
  | _ + 1, [], S => (0, S)
  | n + 1, c :: r, S => if c = 255 then (0, S) else if c = 0 then readL n r S else
    match r with
    | [] => (3, S)
    | k :: r2 => if r2.length < k.toNat then (3, S) else
      match addG S c (r2.take k.toNat) with
      | none => (6, S)
      | some S2 => readL n (r2.drop k.toNat) S2
theorem read_fuel : ∀ (n m : Nat) (l : List UInt8) (S : Gs), l.length ≤ n → l.length ≤ m → readL n l S = readL m l S
  | 0, 0, l, S, _, _ => rfl
  | 0, m + 1, [], S, _, _ => rfl
  | 0, _ + 1, _ :: _, S, h, _ => by simp at h
  | n + 1, 0, [], S, _, _ => rfl
  | _ + 1, 0, _ :: _, S, _, h => by simp at h
  | n + 1, m + 1, [], S, _, _ => rfl
  | n + 1, m + 1, c :: r, S, h1, h2 => by
    unfold readL
    by_cases e1 : c = 255
    · rw [if_pos e1, if_pos e1]
    rw [if_neg e1, if_neg e1]
    simp only [List.length_cons] at h1 h2
    by_cases e2 : c = 0
    · rw [if_pos e2, if_pos e2]; exact read_fuel n m r S (by omega) (by omega)
    rw [if_neg e2, if_neg e2]
    cases r with
    | nil => rfl
    | cons k r2 =>
      simp only [List.length_cons] at h1 h2
      show (if r2.length < k.toNat then _ else _) = if r2.length < k.toNat then _ else _
      by_cases e3 : r2.length < k.toNat
      · rw [if_pos e3, if_pos e3]
      rw [if_neg e3, if_neg e3]
      cases addG S c (r2.take k.toNat) with
      | none => rfl
      | some S2 => exact read_fuel n m _ S2 (by rw [List.length_drop]; omega) (by rw [List.length_drop]; omega)
def readA (l : List UInt8) (S : Gs) : Nat × Gs := readL l.length l S
theorem readA_nil (S : Gs) : readA [] S = (0, S) := rfl
theorem readA_end (r : List UInt8) (S : Gs) : readA (255 :: r) S = (0, S) := rfl
theorem readA_pad (r : List UInt8) (S : Gs) : readA (0 :: r) S = readA r S := by
  unfold readA
  show readL (r.length + 1) (0 :: r) S = _
  conv => lhs; unfold readL
  rw [if_neg (by decide), if_pos rfl]
theorem readA_cut {c : UInt8} (h1 : c ≠ 255) (h2 : c ≠ 0) (S : Gs) : readA [c] S = (3, S) := by
  unfold readA
  show readL (0 + 1) [c] S = _
  unfold readL
  rw [if_neg h1, if_neg h2]
theorem readA_short {c k : UInt8} {r : List UInt8} (h1 : c ≠ 255) (h2 : c ≠ 0) (h3 : r.length < k.toNat) (S : Gs) : readA (c :: k :: r) S = (3, S) := by
  unfold readA
  show readL ((k :: r).length + 1) (c :: k :: r) S = _
  unfold readL
  rw [if_neg h1, if_neg h2]
  exact if_pos h3
theorem readA_long {c k : UInt8} {r : List UInt8} {S : Gs} (h1 : c ≠ 255) (h2 : c ≠ 0) (h3 : ¬ r.length < k.toNat) (h : addG S c (r.take k.toNat) = none) : readA (c :: k :: r) S = (6, S) := by
  unfold readA
  show readL ((k :: r).length + 1) (c :: k :: r) S = _
  unfold readL
  rw [if_neg h1, if_neg h2]
  refine (if_neg h3).trans ?_
  rw [h]
theorem readA_add {c k : UInt8} {r : List UInt8} {S S2 : Gs} (h1 : c ≠ 255) (h2 : c ≠ 0) (h3 : ¬ r.length < k.toNat) (h : addG S c (r.take k.toNat) = some S2) : readA (c :: k :: r) S = readA (r.drop k.toNat) S2 := by
  unfold readA
  show readL ((k :: r).length + 1) (c :: k :: r) S = _
  conv => lhs; unfold readL
  rw [if_neg h1, if_neg h2]
  refine (if_neg h3).trans ?_
  rw [h]
  show readL (k :: r).length (r.drop k.toNat) S2 = _
  exact read_fuel (k :: r).length (r.drop k.toNat).length (r.drop k.toNat) S2 (Nat.le_trans (by rw [List.length_drop]; exact Nat.sub_le _ _) (Nat.le_succ r.length)) (Nat.le_refl _)
/-- areas, one behind the other -/
def parseL : List (List UInt8) → Gs → Nat × Gs
  | [], S => (0, S)
  | a :: r, S => if (readA a S).1 = 0 then parseL r (readA a S).2 else readA a S
def optsOf (S : Gs) : List Opt := S.map (fun x => (x.1, bs x.2))
def gsOf (l : List Opt) : Gs := l.map (fun x => (x.1, lb x.2))
theorem opts_gs (l : List Opt) : optsOf (gsOf l) = l := by
  unfold optsOf gsOf
  rw [List.map_map]
  exact (List.map_congr_left (fun x _ => by show (x.1, bs (lb x.2)) = x; rw [bs_lb])).trans (List.map_id _)
theorem gs_opts (S : Gs) : gsOf (optsOf S) = S := by
  unfold optsOf gsOf
  rw [List.map_map]
  exact (List.map_congr_left (fun x _ => by show (x.1, lb (bs x.2)) = x; rw [lb_bs])).trans (List.map_id _)
/-- what Parse gives: its error, its list -/
def parseE (as : List (List UInt8)) : Nat := (parseL as []).1
def parseO (as : List (List UInt8)) : List Opt := if parseE as = 0 then optsOf (parseL as []).2 else []

/-- what is gathered is sound -/
def GInv (S : Gs) : Prop := S.length ≤ 128 ∧ (S.map (·.1)).Nodup ∧ ∀ x ∈ S, x.1 ≠ 0 ∧ x.1 ≠ 255 ∧ x.2.length ≤ 4096
theorem ginv_nil : GInv [] := ⟨by simp, by simp, fun x h => by cases h⟩
theorem gput_mem {S : Gs} {c : UInt8} {p : List UInt8} {x : UInt8 × List UInt8} (hn : (S.map (·.1)).Nodup) (hx : x ∈ gput S c p) : x ∈ S ∨ x = (c, gold S c ++ p) := by
  induction S with
  | nil => simp [gput] at hx; right; rw [hx]; rfl
  | cons y r ih =>
    rw [List.map_cons, List.nodup_cons] at hn
    unfold gput at hx
    by_cases e : y.1 = c
    · rw [if_pos e] at hx
      rcases List.mem_cons.1 hx with h | h
      · right
        rw [h]
        unfold gold gdat
        rw [if_pos e]; rfl
      · left; exact List.mem_cons_of_mem _ h
    · rw [if_neg e] at hx
      rcases List.mem_cons.1 hx with h | h
      · left; rw [h]; exact List.mem_cons_self ..
      · rcases ih hn.2 h with h | h
        · left; exact List.mem_cons_of_mem _ h
        · right
          rw [h]
          unfold gold
          conv => rhs; rw [gdat]
          rw [if_neg e]
theorem ginv_add {S S2 : Gs} {c : UInt8} {p : List UInt8} (h : GInv S) (h1 : c ≠ 0) (h2 : c ≠ 255) (ha : addG S c p = some S2) : GInv S2 := by
  obtain ⟨g1, g2, g3⟩ := h
  unfold addG at ha
  split at ha
  · cases ha
  · rename_i hn
    cases ha
    refine ⟨?_, ?_, fun x hx => ?_⟩
    · rw [gput_len]
      split
      · rename_i e
        have : S.length ≠ 128 := fun e2 => hn (Or.inr ⟨e, e2⟩)
        omega
      · exact g1
    · cases e : gdat S c with
      | none =>
        rw [gput_new e, List.map_append, List.nodup_append]
        refine ⟨g2, by simp, fun a ha b hb => ?_⟩
        simp at hb
        subst hb
        intro e2
        exact gdat_none.1 e (e2 ▸ ha)
      | some d => rw [gput_old e]; exact g2
    · rcases gput_mem g2 hx with hx | hx
      · exact g3 x hx
      · rw [hx]
        refine ⟨h1, h2, ?_⟩
        have : ¬ 4096 < (gold S c).length + p.length := fun e => hn (Or.inl e)
        show (gold S c ++ p).length ≤ 4096
        rw [List.length_append]; omega
theorem ginv_read : ∀ (n : Nat) (l : List UInt8) (S : Gs), GInv S → GInv (readL n l S).2
  | 0, _, S, h => h
  | _ + 1, [], S, h => h
  | n + 1, c :: r, S, h => by
    unfold readL
    by_cases e1 : c = 255
    · rw [if_pos e1]; exact h
    rw [if_neg e1]
    by_cases e2 : c = 0
    · rw [if_pos e2]; exact ginv_read n r S h
    rw [if_neg e2]
    cases r with
    | nil => exact h
    | cons k r2 =>
      show GInv (if r2.length < k.toNat then _ else _ : Nat × Gs).2
      by_cases e3 : r2.length < k.toNat
      · rw [if_pos e3]; exact h
      rw [if_neg e3]
      cases e4 : addG S c (r2.take k.toNat) with
      | none => exact h
      | some S2 => exact ginv_read n _ S2 (ginv_add h e2 e1 e4)
theorem ginv_parse : ∀ (as : List (List UInt8)) (S : Gs), GInv S → GInv (parseL as S).2
  | [], S, h => h
  | a :: r, S, h => by
    unfold parseL
    split
    · exact ginv_parse r _ (ginv_read _ _ _ h)
    · exact ginv_read _ _ _ h

/-! ### a list that is written -/
def pcs : Nat → UInt8 → List UInt8 → List UInt8
  | 0, c, d => c :: UInt8.ofNat d.length :: d
  | n + 1, c, d => if 255 < d.length then c :: 255 :: (d.take 255 ++ pcs n c (d.drop 255)) else c :: UInt8.ofNat d.length :: d
def pieces (c : UInt8) (d : List UInt8) : List UInt8 := pcs d.length c d
theorem pcs_fuel : ∀ (n m : Nat) (c : UInt8) (d : List UInt8), d.length ≤ n + 255 → d.length ≤ m + 255 → pcs n c d = pcs m c d
  | 0, 0, _, _, _, _ => rfl
  | 0, m + 1, c, d, h, _ => by unfold pcs; rw [if_neg (by omega)]
  | n + 1, 0, c, d, _, h => by unfold pcs; rw [if_neg (by omega)]
  | n + 1, m + 1, c, d, h1, h2 => by
    unfold pcs
    by_cases e : 255 < d.length
    · rw [if_pos e, if_pos e, pcs_fuel n m c (d.drop 255) (by rw [List.length_drop]; omega) (by rw [List.length_drop]; omega)]
    · rw [if_neg e, if_neg e]
theorem pieces_more {c : UInt8} {d : List UInt8} (h : 255 < d.length) : pieces c d = c :: 255 :: d.take 255 ++ pieces c (d.drop 255) := by
  unfold pieces
  obtain ⟨n, hn⟩ : ∃ n, d.length = n + 1 := ⟨d.length - 1, by omega⟩
  rw [hn]
  conv => lhs; unfold pcs
  rw [if_pos (by omega), pcs_fuel n (d.drop 255).length c (d.drop 255) (by rw [List.length_drop]; omega) (by omega)]
  rfl
theorem pieces_last {c : UInt8} {d : List UInt8} (h : ¬ 255 < d.length) : pieces c d = c :: UInt8.ofNat d.length :: d := by
  unfold pieces
  cases e : d.length with
  | zero => unfold pcs; rw [e]
  | succ n => unfold pcs; rw [if_neg h, e]
theorem read_pieces : ∀ (n : Nat) (c : UInt8) (d t : List UInt8) (S S2 : Gs), d.length ≤ n → c ≠ 255 → c ≠ 0 → addG S c d = some S2 → readA (pieces c d ++ t) S = readA t S2
  | n, c, d, t, S, S2, hn, h1, h2, ha => by
    by_cases e : 255 < d.length
    · rw [pieces_more e]
      have ed : d.take 255 ++ d.drop 255 = d := List.take_append_drop 255 d
      obtain ⟨S1, hS⟩ := add_part (S := S) (c := c) (p := d.take 255) (q := d.drop 255) (S2 := S2) (by rw [ed]; exact ha)
      have h255 : (255 : UInt8).toNat = 255 := rfl
      have hl : (d.take 255).length = 255 := by rw [List.length_take]; omega
      show readA (c :: 255 :: (d.take 255 ++ pieces c (d.drop 255) ++ t)) S = _
      rw [List.append_assoc]
      have hr : ((d.take 255) ++ (pieces c (d.drop 255) ++ t)).take (255 : UInt8).toNat = d.take 255 := by rw [h255]; exact List.take_left' hl
      have hd : ((d.take 255) ++ (pieces c (d.drop 255) ++ t)).drop (255 : UInt8).toNat = pieces c (d.drop 255) ++ t := by rw [h255]; exact List.drop_left' hl
      rw [readA_add h1 h2 (by rw [h255, List.length_append]; omega) (by rw [hr]; exact hS), hd]
      obtain ⟨m, rfl⟩ : ∃ m, n = m + 1 := ⟨n - 1, by omega⟩
      exact read_pieces m c (d.drop 255) t S1 S2 (by rw [List.length_drop]; omega) h1 h2 (by rw [add_add hS, ed]; exact ha)
    · rw [pieces_last e]
      have hk : (UInt8.ofNat d.length).toNat = d.length := by rw [UInt8.toNat_ofNat']; omega
      show readA (c :: UInt8.ofNat d.length :: (d ++ t)) S = _
      have hr : (d ++ t).take (UInt8.ofNat d.length).toNat = d := by rw [hk]; exact List.take_left' rfl
      have hd : (d ++ t).drop (UInt8.ofNat d.length).toNat = t := by rw [hk]; exact List.drop_left' rfl
      rw [readA_add h1 h2 (by rw [hk, List.length_append]; omega) (by rw [hr]; exact ha), hd]
def emitB (l : List Opt) : List UInt8 := l.flatMap (fun x => pieces x.1 (lb x.2))
def soundO (x : Opt) : Bool := decide (x.1 ≠ 0 ∧ x.1 ≠ 255 ∧ x.2.size ≤ 4096)
def hasC (c : UInt8) (l : List Opt) : Bool := l.any (fun x => decide (x.1 = c))
def okAt (l : List Opt) (k : Nat) : Bool := match l[k]? with
  | some x => soundO x && !hasC x.1 (l.take k)
  | none => true
def emitOk (l : List Opt) : Bool := (List.range l.length).all (okAt l)
def emitE (l : List Opt) : Nat := if 128 < l.length then 6 else if emitOk l = true then 0 else 130
def emitS (l : List Opt) : List UInt8 := if emitE l = 0 then emitB l ++ [255] else []
theorem emitOk_iff {l : List Opt} : emitOk l = true ↔ ∀ k x, l[k]? = some x → soundO x = true ∧ hasC x.1 (l.take k) = false := by
  unfold emitOk
  rw [List.all_eq_true]
  constructor
  · intro h k x hx
    have := h k (List.mem_range.2 (List.getElem?_eq_some_iff.1 hx).1)
    unfold okAt at this
    rw [hx] at this
    simpa using this
  · intro h k hk
    have hk := List.mem_range.1 hk
    unfold okAt
    rw [List.getElem?_eq_getElem hk]
    have := h k _ (List.getElem?_eq_getElem hk)
    simpa using this
theorem emitE_zero {l : List Opt} (h : emitE l = 0) : l.length ≤ 128 ∧ emitOk l = true := by
  unfold emitE at h
  split at h
  · cases h
  · split at h
    · rename_i h1 h2; exact ⟨by omega, h2⟩
    · cases h
theorem emitB_take {l : List Opt} {k : Nat} {x : Opt} (h : l[k]? = some x) : emitB (l.take (k + 1)) = emitB (l.take k) ++ pieces x.1 (lb x.2) := by
  unfold emitB
  rw [List.take_add_one, h, List.flatMap_append]
  simp
theorem hasC_gs {l : List Opt} {c : UInt8} : hasC c l = false ↔ gdat (gsOf l) c = none := by
  rw [gdat_none]
  unfold hasC gsOf
  rw [List.any_eq_false]
  simp only [decide_eq_true_eq, List.map_map, List.mem_map, Function.comp]
  constructor
  · rintro h ⟨x, hx, he⟩; exact h x hx he
  · intro h x hx he; exact h ⟨x, hx, he⟩
theorem read_emit {l : List Opt} (hl : l.length ≤ 128) (ho : emitOk l = true) (t : List UInt8) : ∀ (n k : Nat), k + n = l.length → readA (emitB (l.drop k) ++ t) (gsOf (l.take k)) = readA t (gsOf l)
  | 0, k, h => by
    rw [List.drop_of_length_le (by omega), List.take_of_length_le (by omega)]; rfl
  | n + 1, k, h => by
    have hk : k < l.length := by omega
    obtain ⟨h1, h2⟩ := emitOk_iff.1 ho k _ (List.getElem?_eq_getElem hk)
    unfold soundO at h1
    rw [decide_eq_true_eq] at h1
    obtain ⟨h3, h4, h5⟩ := h1
    rw [List.drop_eq_getElem_cons hk]
    show readA ((pieces _ _ ++ emitB (l.drop (k + 1))) ++ t) _ = _
    have e := hasC_gs.1 h2
    have gl : (gsOf (l.take k)).length = k := by unfold gsOf; rw [List.length_map, List.length_take]; omega
    have ha : addG (gsOf (l.take k)) l[k].1 (lb l[k].2) = some (gsOf (l.take (k + 1))) := by
      unfold addG gold
      rw [e, gl, if_neg (by rw [lb_len]; simp; omega), gput_new e]
      congr 1
      unfold gsOf
      rw [List.take_add_one, List.getElem?_eq_getElem hk, List.map_append]; rfl
    rw [List.append_assoc, read_pieces _ _ _ _ _ _ (Nat.le_refl _) h4 h3 ha]
    exact read_emit hl ho t n (k + 1) (by omega)
theorem parse_emit {l : List Opt} (h : emitE l = 0) (b : List UInt8) : parseL [0 :: 0 :: (emitS l ++ b), []] [] = (0, gsOf l) := by
  obtain ⟨h1, h2⟩ := emitE_zero h
  have e : readA (0 :: 0 :: (emitS l ++ b)) [] = (0, gsOf l) := by
    rw [readA_pad, readA_pad]
    unfold emitS
    rw [if_pos h, List.append_assoc]
    have := read_emit h1 h2 ([255] ++ b) l.length 0 (by omega)
    rw [List.drop_zero, List.take_zero] at this
    exact this.trans (readA_end _ _)
  unfold parseL
  rw [e, if_pos rfl]; rfl
theorem parse_emit1 {l : List Opt} (h : emitE l = 0) : parseL [emitS l] [] = (0, gsOf l) := by
  obtain ⟨h1, h2⟩ := emitE_zero h
  have e : readA (emitS l) [] = (0, gsOf l) := by
    unfold emitS
    rw [if_pos h]
    have := read_emit h1 h2 [255] l.length 0 (by omega)
    rw [List.drop_zero, List.take_zero] at this
    exact this.trans (readA_end _ _)
  unfold parseL
  rw [e, if_pos rfl]; rfl
theorem emit_ginv {S : Gs} (h : GInv S) : emitE (optsOf S) = 0 := by
  obtain ⟨g1, g2, g3⟩ := h
  have ho : emitOk (optsOf S) = true := emitOk_iff.2 fun k x hx => by
    unfold optsOf at hx ⊢
    rw [List.getElem?_map] at hx
    obtain ⟨y, hy, rfl⟩ := Option.map_eq_some_iff.1 hx
    obtain ⟨q1, q2, q3⟩ := g3 y (List.mem_of_getElem? hy)
    refine ⟨?_, ?_⟩
    · unfold soundO
      rw [decide_eq_true_eq]
      exact ⟨q1, q2, by rw [bs_size]; exact q3⟩
    · unfold hasC
      rw [List.any_eq_false]
      intro z hz
      rw [← List.map_take] at hz
      obtain ⟨u, hu, rfl⟩ := List.mem_map.1 hz
      rw [decide_eq_true_eq]
      intro e
      obtain ⟨j, hj, rfl⟩ := List.getElem_of_mem hu
      rw [List.length_take] at hj
      rw [List.getElem_take] at e
      obtain ⟨hk, rfl⟩ := List.getElem?_eq_some_iff.1 hy
      have hm : ∀ i (hi : i < S.length), (S.map (·.1))[i]'(by rw [List.length_map]; exact hi) = S[i].1 := fun i hi => by rw [List.getElem_map]
      exact List.pairwise_iff_getElem.1 g2 j k (by rw [List.length_map]; omega) (by rw [List.length_map]; exact hk) (by omega) (by rw [hm j (by omega), hm k hk]; exact e)
  unfold emitE
  rw [if_neg (by unfold optsOf; rw [List.length_map]; omega), if_pos ho]
end Go.Proofs.Ytmoklodaeicpgaa
