/-
  Options in the fields for names: mathematics of Wire4Overload. No program is named here. No condition beyond those in each theorem's own statement.
-/
import Derived.Test.YtmoklodaeicpgaaWN
namespace Go.Proofs.Ytmoklodaeicpgaa
open Go

def addAll : List Opt → Gs → Option Gs
  | [], S => some S
  | x :: r, S => match addG S x.1 (lb x.2) with
    | none => none
    | some S2 => addAll r S2
theorem read_pieces_none : ∀ (n : Nat) (c : UInt8) (d t : List UInt8) (S : Gs), d.length ≤ n → c ≠ 255 → c ≠ 0 → addG S c d = none → (readA (pieces c d ++ t) S).1 = 6
  | n, c, d, t, S, hn, h1, h2, ha => by
    by_cases e : 255 < d.length
    · rw [pieces_more e]
      have ed : d.take 255 ++ d.drop 255 = d := List.take_append_drop 255 d
      have h255 : (255 : UInt8).toNat = 255 := rfl
      have hl : (d.take 255).length = 255 := by rw [List.length_take]; omega
      show (readA (c :: 255 :: (d.take 255 ++ pieces c (d.drop 255) ++ t)) S).1 = _
      rw [List.append_assoc]
      have hr : ((d.take 255) ++ (pieces c (d.drop 255) ++ t)).take (255 : UInt8).toNat = d.take 255 := by rw [h255]; exact List.take_left' hl
      have hd : ((d.take 255) ++ (pieces c (d.drop 255) ++ t)).drop (255 : UInt8).toNat = pieces c (d.drop 255) ++ t := by rw [h255]; exact List.drop_left' hl
      cases hS : addG S c (d.take 255) with
      | none => rw [readA_long h1 h2 (by rw [h255, List.length_append]; omega) (by rw [hr]; exact hS)]
      | some S1 =>
        rw [readA_add h1 h2 (by rw [h255, List.length_append]; omega) (by rw [hr]; exact hS), hd]
        obtain ⟨m, rfl⟩ : ∃ m, n = m + 1 := ⟨n - 1, by omega⟩
        exact read_pieces_none m c (d.drop 255) t S1 (by rw [List.length_drop]; omega) h1 h2 (by rw [add_add hS, ed]; exact ha)
    · rw [pieces_last e]
      have hk : (UInt8.ofNat d.length).toNat = d.length := by rw [UInt8.toNat_ofNat']; omega
      show (readA (c :: UInt8.ofNat d.length :: (d ++ t)) S).1 = _
      have hr : (d ++ t).take (UInt8.ofNat d.length).toNat = d := by rw [hk]; exact List.take_left' rfl
      rw [readA_long h1 h2 (by rw [hk, List.length_append]; omega) (by rw [hr]; exact ha)]
def codesOk (l : List Opt) : Prop := ∀ x ∈ l, x.1 ≠ 255 ∧ x.1 ≠ 0
theorem codes_ok {l : List Opt} (h : emitE l = 0) : codesOk l := by
  intro x hx
  obtain ⟨j, hj, rfl⟩ := List.getElem_of_mem hx
  have := (emitOk_iff.1 (emitE_zero h).2 j _ (List.getElem?_eq_getElem hj)).1
  unfold soundO at this
  rw [decide_eq_true_eq] at this
  exact ⟨this.2.1, this.1⟩
theorem read_all : ∀ (l : List Opt) (S : Gs) (t : List UInt8), codesOk l → (∀ S2, addAll l S = some S2 → readA (emitB l ++ t) S = readA t S2) ∧ (addAll l S = none → (readA (emitB l ++ t) S).1 = 6)
  | [], S, t, _ => ⟨fun S2 h => (by cases h; rfl), fun h => (by cases h)⟩
  | x :: r, S, t, hc => by
    have e : emitB (x :: r) ++ t = pieces x.1 (lb x.2) ++ (emitB r ++ t) := by
      show (pieces x.1 (lb x.2) ++ emitB r) ++ t = _
      rw [List.append_assoc]
    obtain ⟨h1, h2⟩ := hc x (List.mem_cons_self ..)
    rw [e]
    unfold addAll
    cases hS : addG S x.1 (lb x.2) with
    | none => exact ⟨fun S2 h => (by cases h), fun _ => read_pieces_none _ _ _ _ _ (Nat.le_refl _) h1 h2 hS⟩
    | some S1 =>
      rw [read_pieces _ _ _ _ _ _ (Nat.le_refl _) h1 h2 hS]
      exact read_all r S1 t (fun y hy => hc y (List.mem_cons_of_mem _ hy))
/-- what is gathered but of the code 52 -/
def flt (S : Gs) : Gs := S.filter (fun x => !decide (x.1 = 52))
theorem flt_cons_no {x : UInt8 × List UInt8} {r : Gs} (h : x.1 = 52) : flt (x :: r) = flt r := by unfold flt; rw [List.filter_cons, if_neg (by simp [h])]
theorem flt_cons_yes {x : UInt8 × List UInt8} {r : Gs} (h : x.1 ≠ 52) : flt (x :: r) = x :: flt r := by unfold flt; rw [List.filter_cons, if_pos (by simp [h])]
theorem flt_put (S : Gs) (c : UInt8) (p : List UInt8) : flt (gput S c p) = if c = 52 then flt S else gput (flt S) c p := by
  induction S with
  | nil =>
    by_cases h : c = 52
    · rw [if_pos h]; unfold gput; rw [flt_cons_no h]
    · rw [if_neg h]; unfold gput; rw [flt_cons_yes h]; rfl
  | cons x r ih =>
    by_cases e : x.1 = c
    · have e1 : gput (x :: r) c p = (c, x.2 ++ p) :: r := by unfold gput; rw [if_pos e]
      rw [e1]
      by_cases h : c = 52
      · rw [if_pos h, flt_cons_no h, flt_cons_no (e.trans h)]
      · rw [if_neg h, flt_cons_yes h, flt_cons_yes (fun h2 => h (e.symm.trans h2))]
        conv => rhs; unfold gput
        rw [if_pos e]
    · have e1 : gput (x :: r) c p = x :: gput r c p := by conv => lhs; unfold gput
                                                          rw [if_neg e]
      rw [e1]
      by_cases hx : x.1 = 52
      · rw [flt_cons_no hx, flt_cons_no hx, ih]
      · rw [flt_cons_yes hx, flt_cons_yes hx, ih]
        by_cases h : c = 52
        · rw [if_pos h, if_pos h]
        · rw [if_neg h, if_neg h]
          conv => rhs; unfold gput
          rw [if_neg e]
def putAll : List Opt → Gs → Gs
  | [], S => S
  | x :: r, S => putAll r (if x.1 = 52 then S else gput S x.1 (lb x.2))
theorem flt_all : ∀ (l : List Opt) (S S2 : Gs), addAll l S = some S2 → flt S2 = putAll l (flt S)
  | [], S, S2, h => by cases h; rfl
  | x :: r, S, S2, h => by
    unfold addAll at h
    cases hS : addG S x.1 (lb x.2) with
    | none => rw [hS] at h; cases h
    | some S1 =>
      rw [hS] at h
      have e : S1 = gput S x.1 (lb x.2) := by
        unfold addG at hS
        split at hS
        · cases hS
        · cases hS; rfl
      rw [flt_all r S1 S2 h, e, flt_put]
      rfl
theorem kept_flt (S : Gs) : kept 52 (optsOf S) = optsOf (flt S) := kept_opts S 52
/-- an area: options, an end, whatever else -/
def areaZ (x : List Opt × List UInt8) : List UInt8 := emitB x.1 ++ 255 :: x.2
theorem parse_zs : ∀ (As : List (List Opt × List UInt8)) (S : Gs), (∀ x ∈ As, codesOk x.1) → (∀ S2, addAll (As.map (·.1)).flatten S = some S2 → parseL (As.map areaZ) S = (0, S2)) ∧ (addAll (As.map (·.1)).flatten S = none → (parseL (As.map areaZ) S).1 = 6)
  | [], S, _ => ⟨fun S2 h => (by cases h; rfl), fun h => (by cases h)⟩
  | x :: r, S, hc => by
    have hx := read_all x.1 S (255 :: x.2) (hc x (List.mem_cons_self ..))
    have app : ∀ (a b : List Opt) (T : Gs), addAll (a ++ b) T = (addAll a T).bind (addAll b) := by
      intro a b
      induction a with
      | nil => intro T; rfl
      | cons y ys ih =>
        intro T
        show (match addG T y.1 (lb y.2) with | none => none | some S2 => addAll (ys ++ b) S2) = ((match addG T y.1 (lb y.2) with | none => none | some S2 => addAll ys S2) : Option Gs).bind (addAll b)
        cases addG T y.1 (lb y.2) with
        | none => rfl
        | some S2 => exact ih S2
    rw [List.map_cons, List.map_cons, List.flatten_cons, app]
    cases h : addAll x.1 S with
    | none =>
      have := hx.2 h
      refine ⟨fun S2 h2 => (by cases h2), fun _ => ?_⟩
      show (if (readA (areaZ x) S).1 = 0 then parseL (r.map areaZ) (readA (areaZ x) S).2 else readA (areaZ x) S).1 = 6
      unfold areaZ
      rw [if_neg (by rw [this]; decide)]
      exact this
    | some S1 =>
      have h1 : readA (areaZ x) S = (0, S1) := (hx.1 S1 h).trans (readA_end _ _)
      have ih := parse_zs r S1 (fun y hy => hc y (List.mem_cons_of_mem _ hy))
      have e : parseL (areaZ x :: r.map areaZ) S = parseL (r.map areaZ) S1 := by
        show (if (readA (areaZ x) S).1 = 0 then parseL (r.map areaZ) (readA (areaZ x) S).2 else readA (areaZ x) S) = _
        rw [h1]; rfl
      rw [e]
      exact ih
theorem emitB_flat : ∀ (Ls : List (List Opt)), emitB Ls.flatten = (Ls.map emitB).flatten
  | [] => rfl
  | a :: r => by
    rw [List.flatten_cons, List.map_cons, List.flatten_cons, ← emitB_flat r]
    unfold emitB
    rw [List.flatMap_append]
theorem flt_none {l : List Opt} (h : hasC 52 l = false) : flt (gsOf l) = gsOf l := by
  unfold flt
  rw [List.filter_eq_self]
  intro x hx
  unfold gsOf at hx
  obtain ⟨y, hy, rfl⟩ := List.mem_map.1 hx
  unfold hasC at h
  rw [List.any_eq_false] at h
  have := h y hy
  simpa using this
theorem read_opts {l : List Opt} (h : emitE l = 0) (t : List UInt8) : readA (emitB l ++ t) [] = readA t (gsOf l) := by
  obtain ⟨h1, h2⟩ := emitE_zero h
  have := read_emit h1 h2 t l.length 0 (by omega)
  rw [List.drop_zero, List.take_zero] at this
  exact this
theorem gdat_self : ∀ (S : Gs) (p : List UInt8), gdat S 52 = none → gdat (S ++ [(52, p)]) 52 = some p
  | [], p, _ => rfl
  | x :: r, p, h => by
    unfold gdat at h
    by_cases e : x.1 = 52
    · rw [if_pos e] at h; cases h
    · rw [if_neg e] at h
      show (if x.1 = 52 then some x.2 else gdat (r ++ [(52, p)]) 52) = _
      rw [if_neg e]
      exact gdat_self r p h
theorem find_last {l : List Opt} {y : Opt} (h : hasC y.1 l = false) : findD (l ++ [y]) y.1 = y.2 ∧ hasC y.1 (l ++ [y]) = true := by
  unfold hasC at h ⊢
  rw [List.any_eq_false] at h
  unfold findD
  have e : (l ++ [y]).find? (fun x => decide (x.1 = y.1)) = some y := by
    rw [List.find?_append]
    have : l.find? (fun x => decide (x.1 = y.1)) = none := by
      rw [List.find?_eq_none]
      exact h
    rw [this]; simp
  rw [e]
  exact ⟨rfl, by simp⟩
/-- what is read of a message with options in its fields for names -/
theorem over_math {m hd : Hd} {l : List Opt} (he : emitE l = 0) (h52 : hasC 52 l = false) (hm : soundH hd = true) {k : UInt8} {n : Nat} (hk : (k = 1 ∧ n = 1) ∨ (k = 2 ∧ n = 2) ∨ (k = 3 ∧ n = 3))
    (As : List (List Opt × List UInt8)) (hA : ∀ x ∈ As, codesOk x.1) (hAr : (if n = 1 ∨ n = 3 then [lb hd.file] else []) ++ (if n = 2 ∨ n = 3 then [lb hd.name] else []) = As.map areaZ) (hH : headN hd n = headN m n)
    {s : ByteArray} (hs : lb s = bytesF hd.fs ++ (cookieL ++ (emitB l ++ [52, 1, k, 255]))) (hl : s.size ≤ 65507) :
    ((decR s).1 = 0 ∨ (decR s).1 = 6) ∧ ((decR s).1 = 0 → parseE [emitB l ++ emitB (As.map (·.1)).flatten] = 0 → (decR s).2 = (headN m n, kept 52 (parseO [emitB l ++ emitB (As.map (·.1)).flatten]))) := by
  rw [dec_area hm hs hl]
  have hr : readA (emitB l ++ [52, 1, k, 255]) [] = readA [52, 1, k, 255] (gsOf l) := read_opts he _
  cases hS : addG (gsOf l) 52 [k] with
  | none =>
    have h6 : readA [52, 1, k, 255] (gsOf l) = (6, gsOf l) := readA_long (by decide) (by decide) (by simp) (by simpa using hS)
    have p6 : parseE [emitB l ++ [52, 1, k, 255]] = 6 := by
      unfold parseE parseL
      rw [hr, h6]; rfl
    rw [p6, if_pos (by decide)]
    exact ⟨Or.inr rfl, fun h => by cases h⟩
  | some S1 =>
    have e1 : S1 = gsOf l ++ [(52, [k])] := by
      unfold addG at hS
      split at hS
      · cases hS
      · cases hS; exact gput_new (hasC_gs.1 h52) _
    have h0 : readA [52, 1, k, 255] (gsOf l) = (0, S1) := by
      rw [readA_add (S2 := S1) (by decide) (by decide) (by simp) (by simpa using hS)]
      rfl
    have p0 : ∀ B, parseL ((emitB l ++ [52, 1, k, 255]) :: B) [] = parseL B S1 := by
      intro B
      show (if (readA (emitB l ++ [52, 1, k, 255]) []).1 = 0 then parseL B (readA (emitB l ++ [52, 1, k, 255]) []).2 else readA (emitB l ++ [52, 1, k, 255]) []) = _
      rw [hr, h0]; rfl
    have pe : parseE [emitB l ++ [52, 1, k, 255]] = 0 := by unfold parseE; rw [p0]; rfl
    have po : parseO [emitB l ++ [52, 1, k, 255]] = l ++ [(52, bs [k])] := by
      unfold parseO
      rw [if_pos pe, p0]
      show optsOf S1 = _
      rw [e1]
      unfold optsOf
      rw [List.map_append]
      have := opts_gs l
      unfold optsOf at this
      rw [this]; rfl
    have on : ovN (l ++ [(52, bs [k])]) = some n := by
      obtain ⟨f1, f2⟩ := find_last (l := l) (y := (52, bs [k])) h52
      unfold ovN
      rw [if_neg (by rw [f2]; simp), f1]
      rcases hk with ⟨rfl, rfl⟩ | ⟨rfl, rfl⟩ | ⟨rfl, rfl⟩ <;> decide
    rw [pe, if_neg (fun h => h rfl), po, on]
    have ar : areasR (emitB l ++ [52, 1, k, 255]) hd n = (emitB l ++ [52, 1, k, 255]) :: As.map areaZ := by
      unfold areasR
      rw [hAr]
    simp only [ar]
    have f1 : flt S1 = gsOf l := by
      rw [e1]
      unfold flt
      rw [List.filter_append]
      have := flt_none h52
      unfold flt at this
      rw [this]; simp
    have z1 := parse_zs As S1 hA
    cases hB : addAll (As.map (·.1)).flatten S1 with
    | none =>
      have h6 := z1.2 hB
      have p6 : parseE ((emitB l ++ [52, 1, k, 255]) :: As.map areaZ) = 6 := by unfold parseE; rw [p0]; exact h6
      rw [p6]
      exact ⟨Or.inr rfl, fun h => by cases h⟩
    | some S2 =>
      have h2 := z1.1 S2 hB
      have p2 : parseE ((emitB l ++ [52, 1, k, 255]) :: As.map areaZ) = 0 := by unfold parseE; rw [p0, h2]
      have o2 : parseO ((emitB l ++ [52, 1, k, 255]) :: As.map areaZ) = optsOf S2 := by unfold parseO; rw [if_pos p2, p0, h2]
      rw [p2, o2, hH]
      refine ⟨Or.inl rfl, fun _ hw => ?_⟩
      show (headN m n, kept 52 (optsOf S2)) = _
      congr 1
      have cA : codesOk (As.map (·.1)).flatten := by
        intro x hx
        obtain ⟨L, hL, hx⟩ := List.mem_flatten.1 hx
        obtain ⟨a, ha, rfl⟩ := List.mem_map.1 hL
        exact hA a ha x hx
      have w1 : readA (emitB l ++ emitB (As.map (·.1)).flatten) [] = readA (emitB (As.map (·.1)).flatten) (gsOf l) := read_opts he _
      have ra := read_all (As.map (·.1)).flatten (gsOf l) [] cA
      rw [List.append_nil] at ra
      cases hC : addAll (As.map (·.1)).flatten (gsOf l) with
      | none =>
        exfalso
        have := ra.2 hC
        unfold parseE parseL at hw
        rw [w1, if_neg (by rw [this]; decide), this] at hw
        cases hw
      | some S3 =>
        have r3 := ra.1 S3 hC
        have w2 : parseL [emitB l ++ emitB (As.map (·.1)).flatten] [] = (0, S3) := by
          unfold parseL
          rw [w1, r3]; rfl
        have w3 : parseO [emitB l ++ emitB (As.map (·.1)).flatten] = optsOf S3 := by
          unfold parseO
          rw [if_pos hw, w2]
        rw [w3, kept_flt, kept_flt, flt_all _ _ _ hB, flt_all _ _ _ hC, f1, flt_none h52]
end Go.Proofs.Ytmoklodaeicpgaa
