/-
  Mathematics of a binary heap: what sifting up and down keeps. Plain arithmetic over functions from places to numbers, and lists with two places exchanged; no program. No condition beyond those in each theorem's own statement.
-/
namespace Go.Proofs.Ytpldkgollhbolaa

/-- none of the first n places lies below its parent -/
def HeapF (f : Nat → Int) (n : Nat) : Prop := ∀ k, 0 < k → k < n → f ((k - 1) / 2) ≤ f k
/-- .. but perhaps j; and j's children don't lie below j's parent -/
def UpInv (f : Nat → Int) (n j : Nat) : Prop :=
  (∀ k, 0 < k → k < n → k ≠ j → f ((k - 1) / 2) ≤ f k) ∧ (0 < j → ∀ k, 0 < k → k < n → (k - 1) / 2 = j → f ((j - 1) / 2) ≤ f k)
/-- .. but perhaps i's children, and i0 as long as nothing has moved -/
def DnInv (f : Nat → Int) (n i0 i : Nat) : Prop :=
  (∀ k, 0 < k → k < n → (k - 1) / 2 ≠ i → (k ≠ i0 ∨ i ≠ i0) → f ((k - 1) / 2) ≤ f k) ∧ (0 < i → ∀ k, 0 < k → k < n → (k - 1) / 2 = i → f ((i - 1) / 2) ≤ f k)
/-- two places exchanged -/
def sw (f : Nat → Int) (i j : Nat) (k : Nat) : Int := if k = i then f j else if k = j then f i else f k
theorem sw_i (f : Nat → Int) (i j : Nat) : sw f i j i = f j := by unfold sw; rw [if_pos rfl]
theorem sw_j (f : Nat → Int) (i j : Nat) : sw f i j j = f i := by
  unfold sw
  by_cases h : j = i
  · rw [if_pos h, h]
  · rw [if_neg h, if_pos rfl]
theorem sw_ne (f : Nat → Int) {i j k : Nat} (h1 : k ≠ i) (h2 : k ≠ j) : sw f i j k = f k := by unfold sw; rw [if_neg h1, if_neg h2]

theorem up_step {f : Nat → Int} {n j i : Nat} (h : UpInv f n j) (hj : 0 < j) (hn : j < n) (hi : (j - 1) / 2 = i) (hlt : f j < f i) : UpInv (sw f i j) n i := by
  obtain ⟨h1, h2⟩ := h
  have h2 := h2 hj
  rw [hi] at h2
  have hij : i ≠ j := by omega
  refine ⟨fun k hk0 hkn hki => ?_, fun hi0 k hk0 hkn hpk => ?_⟩
  · by_cases hkj : k = j
    · subst hkj
      rw [hi, sw_i, sw_j]; omega
    · rw [sw_ne f hki hkj]
      by_cases hp : (k - 1) / 2 = i
      · rw [hp, sw_i]
        have := h1 k hk0 hkn hkj
        rw [hp] at this; omega
      · by_cases hp2 : (k - 1) / 2 = j
        · rw [hp2, sw_j]; exact h2 k hk0 hkn hp2
        · rw [sw_ne f hp hp2]; exact h1 k hk0 hkn hkj
  · have e1 : sw f i j ((i - 1) / 2) = f ((i - 1) / 2) := sw_ne f (by omega) (by omega)
    rw [e1]
    have hgi := h1 i hi0 (by omega) hij
    by_cases hkj : k = j
    · subst hkj; rw [sw_j]; exact hgi
    · rw [sw_ne f (by omega) hkj]
      have := h1 k hk0 hkn hkj
      rw [hpk] at this; omega
theorem up_stop {f : Nat → Int} {n j : Nat} (h : UpInv f n j) (hs : j = 0 ∨ f ((j - 1) / 2) ≤ f j) : HeapF f n := by
  intro k hk0 hkn
  by_cases hkj : k = j
  · subst hkj
    rcases hs with hs | hs
    · omega
    · exact hs
  · exact h.1 k hk0 hkn hkj
theorem dn_step {f : Nat → Int} {n i0 i j : Nat} (h : DnInv f n i0 i) (hj : (j - 1) / 2 = i) (hj0 : 0 < j) (hn : j < n) (hm : ∀ k, 0 < k → k < n → (k - 1) / 2 = i → f j ≤ f k) (hlt : f j < f i) (h0 : i0 ≤ i) : DnInv (sw f i j) n i0 j := by
  obtain ⟨h1, h2⟩ := h
  have hij : i ≠ j := by omega
  refine ⟨fun k hk0 hkn hpk _ => ?_, fun _ k hk0 hkn hpk => ?_⟩
  · by_cases hp : (k - 1) / 2 = i
    · rw [hp, sw_i]
      by_cases hkj : k = j
      · subst hkj; rw [sw_j]; omega
      · rw [sw_ne f (by omega) hkj]; exact hm k hk0 hkn hp
    · rw [sw_ne f hp hpk]
      by_cases hki : k = i
      · subst hki
        rw [sw_i]
        exact h2 hk0 j hj0 hn hj
      · have hkj : k ≠ j := by intro e; subst e; exact hp hj
        rw [sw_ne f hki hkj]
        exact h1 k hk0 hkn hp (by omega)
  · rw [hj, sw_i, sw_ne f (by omega) (by omega)]
    have := h1 k hk0 hkn (by omega) (by omega)
    rw [hpk] at this; exact this
theorem dn_stop {f : Nat → Int} {n i0 i : Nat} (h : DnInv f n i0 i) (hs : ∀ k, 0 < k → k < n → (k - 1) / 2 = i → f i ≤ f k) (h0 : i0 ≤ i) : (i = i0 → UpInv f n i0) ∧ (i ≠ i0 → HeapF f n) := by
  obtain ⟨h1, h2⟩ := h
  refine ⟨fun e => ?_, fun hne => ?_⟩
  · subst e
    refine ⟨fun k hk0 hkn hki => ?_, h2⟩
    by_cases hp : (k - 1) / 2 = i
    · rw [hp]; exact hs k hk0 hkn hp
    · exact h1 k hk0 hkn hp (Or.inl hki)
  · intro k hk0 hkn
    by_cases hp : (k - 1) / 2 = i
    · rw [hp]; exact hs k hk0 hkn hp
    · exact h1 k hk0 hkn hp (Or.inr hne)
/-- one more at the end -/
theorem up_start {f : Nat → Int} {n : Nat} (h : HeapF f n) : UpInv f (n + 1) n := by
  refine ⟨fun k hk0 hkn hkj => h k hk0 (by omega), fun _ k hk0 hkn hpk => ?_⟩
  omega
/-- the last one put in the place of another -/
theorem dn_start {f : Nat → Int} {n i : Nat} (h : HeapF f (n + 1)) (hi : i < n) : DnInv (sw f i n) n i i := by
  refine ⟨fun k hk0 hkn hpk hor => ?_, fun hi0 k hk0 hkn hpk => ?_⟩
  · have hki : k ≠ i := by omega
    rw [sw_ne f hpk (by omega), sw_ne f hki (by omega)]
    exact h k hk0 (by omega)
  · rw [sw_ne f (by omega) (by omega), sw_ne f (by omega) (by omega)]
    have a := h k hk0 (by omega)
    have b := h i hi0 (by omega)
    rw [hpk] at a; omega
theorem heap_less {f : Nat → Int} {n m : Nat} (h : HeapF f n) (hm : m ≤ n) : HeapF f m := fun k h0 hk => h k h0 (by omega)
theorem heap_congr {f g : Nat → Int} {n : Nat} (h : HeapF f n) (e : ∀ k, k < n → f k = g k) : HeapF g n := fun k h0 hk => by
  rw [← e k hk, ← e _ (by omega)]; exact h k h0 hk
theorem up_congr {f g : Nat → Int} {n j : Nat} (h : UpInv f n j) (hj : j < n) (e : ∀ k, k < n → f k = g k) : UpInv g n j :=
  ⟨fun k h0 hk hne => by rw [← e k hk, ← e _ (by omega)]; exact h.1 k h0 hk hne, fun hj0 k h0 hk hp => by rw [← e k hk, ← e _ (by omega)]; exact h.2 hj0 k h0 hk hp⟩
theorem dn_congr {f g : Nat → Int} {n i0 i : Nat} (h : DnInv f n i0 i) (hj : i < n) (e : ∀ k, k < n → f k = g k) : DnInv g n i0 i :=
  ⟨fun k h0 hk hp hor => by rw [← e k hk, ← e _ (by omega)]; exact h.1 k h0 hk hp hor, fun hj0 k h0 hk hp => by rw [← e k hk, ← e _ (by omega)]; exact h.2 hj0 k h0 hk hp⟩
/-- the first one is the least -/
theorem heap_least {f : Nat → Int} {n : Nat} (h : HeapF f n) : ∀ k, k < n → f 0 ≤ f k := by
  intro k
  induction k using Nat.strongRecOn with
  | _ k ih =>
    intro hk
    by_cases h0 : k = 0
    · rw [h0]; omega
    · have a := ih ((k - 1) / 2) (by omega) (by omega)
      have b := h k (by omega) hk
      omega

/-! ### lists with two places exchanged -/
variable {α : Type}
def swapL (E : List α) (i j : Nat) : List α := match E[i]?, E[j]? with | some x, some y => (E.set i y).set j x | _, _ => E
theorem swapL_eq {E : List α} {i j : Nat} {x y : α} (hx : E[i]? = some x) (hy : E[j]? = some y) : swapL E i j = (E.set i y).set j x := by simp [swapL, hx, hy]
theorem swapL_length (E : List α) (i j : Nat) : (swapL E i j).length = E.length := by
  unfold swapL; split <;> simp
theorem swapL_j {E : List α} {i j : Nat} (hi : i < E.length) (hj : j < E.length) : (swapL E i j)[j]? = E[i]? := by
  rw [swapL_eq (List.getElem?_eq_getElem hi) (List.getElem?_eq_getElem hj)]
  simp [hi, hj]
theorem swapL_i {E : List α} {i j : Nat} (hi : i < E.length) (hj : j < E.length) : (swapL E i j)[i]? = E[j]? := by
  rw [swapL_eq (List.getElem?_eq_getElem hi) (List.getElem?_eq_getElem hj)]
  by_cases e : j = i
  · subst e; simp [hi]
  · simp [hi, hj, e]
theorem swapL_ne {E : List α} {i j k : Nat} (h1 : k ≠ i) (h2 : k ≠ j) : (swapL E i j)[k]? = E[k]? := by
  unfold swapL; split
  · simp [Ne.symm h1, Ne.symm h2]
  · rfl
theorem swapL_perm (E : List α) (i j : Nat) : (swapL E i j).Perm E := by
  unfold swapL; split
  · rename_i x y hx hy
    obtain ⟨hi, rfl⟩ := List.getElem?_eq_some_iff.1 hx
    obtain ⟨hj, rfl⟩ := List.getElem?_eq_some_iff.1 hy
    have := Array.swap_perm (xs := E.toArray) (i := i) (j := j) (by simpa using hi) (by simpa using hj)
    have := Array.perm_iff_toList_perm.1 this
    simpa [Array.swap] using this
  · exact .refl _
end Go.Proofs.Ytpldkgollhbolaa
