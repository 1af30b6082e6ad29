/-
  Mathematics of TextGets: what a text of digits is worth, the parts between a byte's places, and how both meet what the program's functions answer. No program.
-/
import Derived.Test.YtmapcllmiomelaaDoorTextBm
import Derived.Test.YtmapcllmiomelaaDoorTextX
namespace Go.Proofs.YtmapcllmiomelaaDoor
open Go.RowKit Go.Joins

/-! ### numbers -/
theorem dec_short : ∀ (k n : Nat), n < 10 ^ (k + 1) → (Lib.decDigits n).length ≤ k + 1
  | k, n, h => by
    by_cases h1 : n < 10
    · rw [Lib.decDigits_one h1]; simp
    · match k, h with
      | 0, h => omega
      | k + 1, h =>
        have ih := dec_short k (n / 10) (by rw [Nat.pow_succ] at h; omega)
        rw [Lib.decDigits, dif_neg h1, List.length_append]
        simp only [List.length_singleton]; omega
theorem dec_head (n : Nat) : 1 ≤ n → (Lib.decDigits n).head? ≠ some 48 := by
  induction n using Nat.strongRecOn with
  | _ n ih =>
    intro hn
    by_cases h1 : n < 10
    · have hb := dec_byte h1
      rw [Lib.decDigits_one h1]
      intro e
      have e2 : UInt8.ofNat (48 + n) = 48 := by simpa using e
      rw [e2] at hb
      have : (48 : UInt8).toNat = 48 := rfl
      omega
    · have i := ih (n / 10) (by omega) (by omega)
      have ne := dec_ne (n / 10)
      rw [Lib.decDigits, dif_neg h1]
      match hm : Lib.decDigits (n / 10), ne with
      | b :: m, _ =>
        rw [hm] at i
        exact i
theorem dig_back : ∀ (k : Nat) (l : List UInt8), l.length = k → l ≠ [] → (∀ c ∈ l, 48 ≤ c.toNat ∧ c.toNat ≤ 57) → (1 < l.length → l.head? ≠ some 48) → Lib.decDigits (valD 0 l) = l := by
  intro k
  induction k with
  | zero => intro l h0 h1; exact absurd (List.length_eq_zero_iff.1 h0) h1
  | succ k ih =>
    intro l hl hne hd hh
    obtain ⟨m, c, rfl⟩ : ∃ m c, l = m ++ [c] := ⟨l.dropLast, l.getLast hne, (List.dropLast_concat_getLast hne).symm⟩
    have hc := hd c (by simp)
    have hlen : m.length = k := by simpa using hl
    rw [valD_append, valD_one]
    match m, hlen with
    | [], _ =>
      have e0 : valD 0 [] = 0 := rfl
      rw [e0, Lib.decDigits_one (by omega), show 48 + (0 * 10 + (c.toNat - 48)) = c.toNat by omega]
      simp
    | b :: m, hlen =>
      have hb : b ≠ 48 := fun e => hh (by simp) (by rw [e]; rfl)
      have i := ih (b :: m) hlen (by simp) (fun x hx => hd x (List.mem_append_left _ hx)) (fun _ e => hb (Option.some.inj e))
      have hv : valD 0 (b :: m) ≠ 0 := by
        intro e
        rw [e, Lib.decDigits_one (by omega)] at i
        have := (List.cons.inj i).1
        exact hb this.symm
      generalize valD 0 (b :: m) = v at *
      rw [Lib.decDigits, dif_neg (by omega), show (v * 10 + (c.toNat - 48)) / 10 = v by omega, i, show 48 + (v * 10 + (c.toNat - 48)) % 10 = c.toNat by omega]
      simp
def Digits (l : List UInt8) : Prop := ∀ c ∈ l, 48 ≤ c.toNat ∧ c.toNat ≤ 57
theorem gnum_form {l : List UInt8} {n : Nat} (h : gnum l = some n) : l ≠ [] ∧ l.length ≤ 19 ∧ (1 < l.length → l.head? ≠ some 48) ∧ Digits l ∧ valD 0 l = n ∧ n ≤ 4611686018427387904 := by
  obtain ⟨h1, h2⟩ := gnum_eq h
  rw [itoa_nat] at h2
  rw [← h2]
  refine ⟨dec_ne n, dec_short 18 n (by omega), fun hl => ?_, (dec_all n).1, (dec_all n).2, h1⟩
  by_cases h0 : n = 0
  · rw [h0, Lib.decDigits_one (by omega)] at hl
    simp at hl
  · exact dec_head n (by omega)
theorem gnum_no {l : List UInt8} (h : l = [] ∨ 19 < l.length ∨ (1 < l.length ∧ l.head? = some 48) ∨ ∃ c ∈ l, ¬ (48 ≤ c.toNat ∧ c.toNat ≤ 57)) : gnum l = none := by
  cases e : gnum l with
  | none => rfl
  | some n =>
    obtain ⟨h1, h2, h3, h4, _⟩ := gnum_form e
    rcases h with h | h | ⟨h, k⟩ | ⟨c, hc, hn⟩
    · exact absurd h h1
    · omega
    · exact absurd k (h3 h)
    · exact absurd (h4 c hc) hn
theorem gnum_val {l : List UInt8} (h1 : l ≠ []) (h3 : 1 < l.length → l.head? ≠ some 48) (h4 : Digits l) : gnum l = if valD 0 l ≤ 4611686018427387904 then some (valD 0 l) else none := by
  have hb := dig_back l.length l rfl h1 h4 h3
  by_cases h : valD 0 l ≤ 4611686018427387904
  · rw [if_pos h]
    have := gnum_itoa h
    rw [itoa_nat, hb] at this
    exact this
  · rw [if_neg h]
    cases e : gnum l with
    | none => rfl
    | some n =>
      obtain ⟨_, _, _, _, h5, h6⟩ := gnum_form e
      omega
theorem valD_lt (l : List UInt8) : ∀ (acc : Nat), Digits l → valD acc l < (acc + 1) * 10 ^ l.length := by
  induction l with
  | nil => intro acc _; rw [List.length_nil, Nat.pow_zero, Nat.mul_one]; exact Nat.lt_succ_self acc
  | cons c r ih =>
    intro acc h
    have hc := h c (List.mem_cons_self ..)
    have i := ih (acc * 10 + (c.toNat - 48)) (fun x hx => h x (List.mem_cons_of_mem _ hx))
    rw [List.length_cons, Nat.pow_succ, Nat.mul_comm (10 ^ r.length) 10, ← Nat.mul_assoc]
    exact Nat.lt_of_lt_of_le i (Nat.mul_le_mul_right _ (by omega))

/-! ### digits of groups and bytes -/
theorem gx_fin : ∀ i : Fin 256, gx (UInt8.ofNat i.val) = if 48 ≤ i.val ∧ i.val ≤ 57 then (i.val : Int) - 48 else if 97 ≤ i.val ∧ i.val ≤ 102 then (i.val : Int) - 87 else if 65 ≤ i.val ∧ i.val ≤ 70 then (i.val : Int) - 55 else -1 := by decide +kernel
theorem gx_is (b : UInt8) : gx b = if 48 ≤ b.toNat ∧ b.toNat ≤ 57 then (b.toNat : Int) - 48 else if 97 ≤ b.toNat ∧ b.toNat ≤ 102 then (b.toNat : Int) - 87 else if 65 ≤ b.toNat ∧ b.toNat ≤ 70 then (b.toNat : Int) - 55 else -1 := by
  have := gx_fin ⟨b.toNat, b.toNat_lt⟩
  simpa using this
theorem hx_fin2 : ∀ i : Fin 256, hx (UInt8.ofNat i.val) = if 48 ≤ i.val ∧ i.val ≤ 57 then (i.val : Int) - 48 else if 97 ≤ i.val ∧ i.val ≤ 102 then (i.val : Int) - 87 else -1 := by decide +kernel
theorem hx_is (b : UInt8) : hx b = if 48 ≤ b.toNat ∧ b.toNat ≤ 57 then (b.toNat : Int) - 48 else if 97 ≤ b.toNat ∧ b.toNat ≤ 102 then (b.toNat : Int) - 87 else -1 := by
  have := hx_fin2 ⟨b.toNat, b.toNat_lt⟩
  simpa using this
theorem grpF_no : ∀ (l : List UInt8) (acc : Nat) (c : UInt8), c ∈ l → gx c < 0 → grpF acc l = none
  | b :: l, acc, c, h, hc => by
    unfold grpF
    split
    · rename_i h0
      rcases List.mem_cons.1 h with e | h
      · rw [e] at hc; omega
      · exact grpF_no l _ c h hc
    · rfl

/-! ### the parts between a byte's places -/
def splitA (c : UInt8) : List UInt8 → List (List UInt8)
  | [] => [[]]
  | b :: l => if b = c then [] :: splitA c l else match splitA c l with
    | [] => [[b]]
    | p :: ps => (b :: p) :: ps
theorem splitA_no {c : UInt8} : ∀ {p : List UInt8}, c ∉ p → splitA c p = [p]
  | [], _ => rfl
  | b :: p, h => by
    have hb : ¬ b = c := fun e => h (by rw [e]; exact List.mem_cons_self ..)
    unfold splitA
    rw [if_neg hb, splitA_no (fun e => h (List.mem_cons_of_mem _ e))]
theorem splitA_hit {c : UInt8} : ∀ {p : List UInt8} (r : List UInt8), c ∉ p → splitA c (p ++ c :: r) = p :: splitA c r
  | [], r, _ => by
    rw [List.nil_append]
    conv => lhs; unfold splitA
    rw [if_pos rfl]
  | b :: p, r, h => by
    have hb : ¬ b = c := fun e => h (by rw [e]; exact List.mem_cons_self ..)
    rw [List.cons_append]
    conv => lhs; unfold splitA
    rw [if_neg hb, splitA_hit r (fun e => h (List.mem_cons_of_mem _ e))]
theorem splitA_pos (c : UInt8) (l : List UInt8) : 1 ≤ (splitA c l).length := by
  cases l with
  | nil => exact Nat.le_refl _
  | cons b l =>
    unfold splitA
    split
    · simp
    · split <;> simp
theorem cut_at {c : UInt8} {l : List UInt8} (h : c ∈ l) : ∃ p r, l = p ++ c :: r ∧ c ∉ p := by
  obtain ⟨p, r, e, hn⟩ := List.eq_append_cons_of_mem h
  exact ⟨p, r, e, hn⟩
theorem splitA_len (c : UInt8) : ∀ (k : Nat) (l : List UInt8), l.length ≤ k → (splitA c l).length ≤ l.length + 1 := by
  intro k
  induction k with
  | zero => intro l h; rw [List.length_eq_zero_iff.1 (Nat.le_zero.1 h)]; exact Nat.le_refl _
  | succ k ih =>
    intro l h
    by_cases hc : c ∈ l
    · obtain ⟨p, r, rfl, hn⟩ := cut_at hc
      simp only [List.length_append, List.length_cons] at h ⊢
      have := ih r (by omega)
      rw [splitA_hit r hn, List.length_cons]
      omega
    · rw [splitA_no hc]; simp
theorem splitK_hit {c : UInt8} {p : List UInt8} (r : List UInt8) (k : Nat) (h : c ∉ p) : Lib.splitK [c] 0 (k + 1) (p ++ c :: r) = p :: Lib.splitK [c] 0 k r := by
  rw [Lib.splitK, index_hit1 c p r h, if_neg (by rw [beq_iff_eq]; omega), Int.toNat_natCast]
  simp
theorem splitK_miss {c : UInt8} {p : List UInt8} (k : Nat) (h : c ∉ p) : Lib.splitK [c] 0 k p = [p] := by
  cases k with
  | zero => rfl
  | succ k => rw [Lib.splitK, index_miss1 c p h]; exact if_pos (by decide)
theorem splitK_A (c : UInt8) : ∀ (k : Nat) (l : List UInt8), (splitA c l).length ≤ k + 1 → Lib.splitK [c] 0 k l = splitA c l := by
  intro k
  induction k with
  | zero =>
    intro l h
    by_cases hc : c ∈ l
    · obtain ⟨p, r, rfl, hn⟩ := cut_at hc
      have := splitA_pos c r
      rw [splitA_hit r hn, List.length_cons] at h
      omega
    · rw [splitK_miss 0 hc, splitA_no hc]
  | succ k ih =>
    intro l h
    by_cases hc : c ∈ l
    · obtain ⟨p, r, rfl, hn⟩ := cut_at hc
      rw [splitA_hit r hn, List.length_cons] at h
      rw [splitK_hit r k hn, splitA_hit r hn, ih r (by omega)]
    · rw [splitK_miss _ hc, splitA_no hc]
theorem splitK_over (c : UInt8) : ∀ (k : Nat) (l : List UInt8), k + 1 < (splitA c l).length → (Lib.splitK [c] 0 k l).length = k + 1 ∧ ∃ p ∈ Lib.splitK [c] 0 k l, c ∈ p := by
  intro k
  induction k with
  | zero =>
    intro l h
    refine ⟨rfl, l, List.mem_singleton.2 rfl, ?_⟩
    by_cases hc : c ∈ l
    · exact hc
    · rw [splitA_no hc] at h
      simp at h
  | succ k ih =>
    intro l h
    by_cases hc : c ∈ l
    · obtain ⟨p, r, rfl, hn⟩ := cut_at hc
      rw [splitA_hit r hn, List.length_cons] at h
      obtain ⟨i1, q, i2, i3⟩ := ih r (by omega)
      rw [splitK_hit r k hn]
      exact ⟨by rw [List.length_cons, i1], q, List.mem_cons_of_mem _ i2, i3⟩
    · rw [splitA_no hc] at h
      simp at h
/-- the same, the parts as texts -/
def splitS (c : UInt8) (s : ByteArray) : List ByteArray := (splitA c s.data.toList).map fun p => ⟨p.toArray⟩
theorem splitS_data (c : UInt8) (s : ByteArray) : (splitS c s).map (·.data.toList) = splitA c s.data.toList := by
  unfold splitS
  rw [List.map_map]
  conv => rhs; rw [← List.map_id (splitA c s.data.toList)]
  exact List.map_congr_left fun p _ => rfl
theorem data_inj {a b : List ByteArray} (h : a.map (·.data.toList) = b.map (·.data.toList)) : a = b := by
  have e : ∀ l : List ByteArray, (l.map (·.data.toList)).map (fun p => (⟨p.toArray⟩ : ByteArray)) = l := fun l => by
    rw [List.map_map]
    conv => rhs; rw [← List.map_id l]
    exact List.map_congr_left fun x _ => tail_eta rfl
  rw [← e a, h, e b]
theorem dots_S {s : ByteArray} (h : (splitS 46 s).length ≤ 5) : dots s = splitS 46 s := by
  have hl := splitA_len 46 _ s.data.toList (Nat.le_refl _)
  have h2 : (splitA 46 s.data.toList).length ≤ 5 := by rw [← splitS_data, List.length_map]; exact h
  have hs : s.data.toList.length = s.size := rfl
  apply data_inj
  rw [splitS_data]
  unfold dots
  rw [Lib.splitB_data]
  exact splitK_A 46 _ _ (by omega)
theorem dots_over {s : ByteArray} (h : 5 < (splitS 46 s).length) : (dots s).length = 5 := by
  have hl := splitA_len 46 _ s.data.toList (Nat.le_refl _)
  have h2 : 5 < (splitA 46 s.data.toList).length := by rw [← splitS_data, List.length_map]; exact h
  have hs : s.data.toList.length = s.size := rfl
  have k := (splitK_over 46 4 s.data.toList (by omega)).1
  rw [← List.length_map (f := (·.data.toList))]
  unfold dots
  rw [Lib.splitB_data, show min 5 (s.size + 1) - 1 = 4 by omega]
  exact k
theorem get4_S (s : ByteArray) : get4 s = if (splitS 46 s).length = 4 then fold4 0 (splitS 46 s) else none := by
  by_cases h : (splitS 46 s).length ≤ 5
  · unfold get4
    rw [dots_S h]
  · unfold get4
    rw [if_neg (by rw [dots_over (by omega)]; decide), if_neg (by omega)]
theorem mapAll_no : ∀ (ps : List ByteArray) (x : ByteArray), x ∈ ps → grp x.data.toList = none → mapAll ps = none
  | p :: ps, x, h, hx => by
    rcases List.mem_cons.1 h with e | h
    · unfold mapAll
      rw [← e, hx]
    · have i := mapAll_no ps x h hx
      unfold mapAll
      rw [i]
      cases grp p.data.toList <;> rfl
theorem cols_S {s : ByteArray} (h : (splitS 58 s).length ≤ 9) : cols s = splitS 58 s := by
  have hl := splitA_len 58 _ s.data.toList (Nat.le_refl _)
  have h2 : (splitA 58 s.data.toList).length ≤ 9 := by rw [← splitS_data, List.length_map]; exact h
  have hs : s.data.toList.length = s.size := rfl
  apply data_inj
  rw [splitS_data]
  unfold cols
  rw [Lib.splitB_data]
  exact splitK_A 58 _ _ (by omega)
theorem cols_over {s : ByteArray} (h : 9 < (splitS 58 s).length) : row6 s = none := by
  have hl := splitA_len 58 _ s.data.toList (Nat.le_refl _)
  have h2 : 9 < (splitA 58 s.data.toList).length := by rw [← splitS_data, List.length_map]; exact h
  have hs : s.data.toList.length = s.size := rfl
  obtain ⟨_, p, hp, hc⟩ := splitK_over 58 8 s.data.toList (by omega)
  have e : Lib.splitK [58] 0 8 s.data.toList = (cols s).map (·.data.toList) := by
    unfold cols
    rw [Lib.splitB_data, show min 9 (s.size + 1) - 1 = 8 by omega]
  rw [e] at hp
  obtain ⟨x, hx, rfl⟩ := List.mem_map.1 hp
  unfold row6
  split
  · rename_i h0
    rw [h0] at h2
    simp [splitA] at h2
  · refine mapAll_no _ x hx ?_
    unfold grp
    split
    · rfl
    · exact grpF_no _ _ 58 hc (by rw [gx_is]; decide)
/-- groups with colons between them, all of them -/
def rowS (s : ByteArray) : Option (List Nat) := if s.data.toList = [] then some [] else mapAll (splitS 58 s)
theorem rowS_small {s : ByteArray} (h : (splitS 58 s).length ≤ 9) : row6 s = rowS s := by
  unfold row6 rowS
  rw [cols_S h]
theorem rowS_over {s : ByteArray} (h : 9 < (splitS 58 s).length) : row6 s = none ∧ ∀ l, rowS s = some l → 9 < l.length := by
  refine ⟨cols_over h, fun l hl => ?_⟩
  unfold rowS at hl
  split at hl
  · rename_i h0
    unfold splitS at h
    rw [h0] at h
    simp [splitA] at h
  · rw [mapAll_len _ _ hl]; exact h
end Go.Proofs.YtmapcllmiomelaaDoor
