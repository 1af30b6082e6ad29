/-
  What TextBack and TextForms ask of the texts, as mathematics: what is written is read again, and what an address's text looks like. Conditions: addresses are below 2^128, numbers of 32 bits below 2^32, numbers not above 2^62.
-/
import Derived.Test.YtmapcllmiomelaaDoorTextDm
import Derived.Lib.AtoiAllCases
namespace Go.Proofs.YtmapcllmiomelaaDoor
open Go.RowKit Go.Joins

theorem hexd_hx : ∀ i : Fin 16, hx (hexd i.val) = i.val ∧ gx (hexd i.val) = i.val ∧ hexd i.val ≠ 58 := by decide +kernel
theorem unhex_hex : ∀ l : List UInt8, unhexL (hexL l) = some l
  | [] => rfl
  | b :: r => by
    have hb := b.toNat_lt
    have h1 := (hexd_hx ⟨b.toNat / 16, by omega⟩).1
    have h2 := (hexd_hx ⟨b.toNat % 16, by omega⟩).1
    simp only at h1 h2
    unfold hexL unhexL
    rw [h1, h2, if_pos ⟨by omega, by omega⟩, unhex_hex r, Option.map_some, Int.toNat_natCast, Int.toNat_natCast, show b.toNat / 16 * 16 + b.toNat % 16 = b.toNat by omega]
    simp

/-- the number that decimal digits are of -/
def valD : Nat → List UInt8 → Nat
  | acc, [] => acc
  | acc, c :: r => valD (acc * 10 + (c.toNat - 48)) r
theorem valD_ge : ∀ (l : List UInt8) (acc : Nat), acc ≤ valD acc l
  | [], acc => Nat.le_refl _
  | c :: r, acc => by
    have := valD_ge r (acc * 10 + (c.toNat - 48))
    unfold valD; omega
theorem valD_append : ∀ (l m : List UInt8) (acc : Nat), valD acc (l ++ m) = valD (valD acc l) m
  | [], _, _ => rfl
  | c :: r, m, acc => valD_append r m (acc * 10 + (c.toNat - 48))
theorem parse_digits : ∀ (l : List UInt8) (acc : Nat), (∀ c ∈ l, 48 ≤ c.toNat ∧ c.toNat ≤ 57) → valD acc l < 18446744073709551616 → Lib.parseUint10 acc l = .ok (valD acc l)
  | [], acc, _, _ => rfl
  | c :: r, acc, hd, hv => by
    have hc := hd c (List.mem_cons_self ..)
    have hg := valD_ge r (acc * 10 + (c.toNat - 48))
    unfold valD at hv ⊢
    unfold Lib.parseUint10
    rw [if_pos hc, if_neg (by omega), if_neg (by omega)]
    exact parse_digits r _ (fun x hx => hd x (List.mem_cons_of_mem _ hx)) hv
theorem dec_byte {d : Nat} (h : d < 10) : (UInt8.ofNat (48 + d)).toNat = 48 + d := by rw [UInt8.toNat_ofNat']; omega
theorem valD_one (acc : Nat) (c : UInt8) : valD acc [c] = acc * 10 + (c.toNat - 48) := rfl
theorem dec_all (u : Nat) : (∀ c ∈ Lib.decDigits u, 48 ≤ c.toNat ∧ c.toNat ≤ 57) ∧ valD 0 (Lib.decDigits u) = u := by
  induction u using Nat.strongRecOn with
  | _ u ih =>
    by_cases h : u < 10
    · have hb := dec_byte h
      rw [Lib.decDigits, dif_pos h]
      generalize UInt8.ofNat (48 + u) = d at hb
      refine ⟨fun c hc => ?_, ?_⟩
      · rw [List.mem_singleton] at hc
        subst hc
        omega
      · rw [valD_one, hb]
        omega
    · have hb := dec_byte (show u % 10 < 10 by omega)
      rw [Lib.decDigits, dif_neg h]
      generalize UInt8.ofNat (48 + u % 10) = d at hb
      obtain ⟨i1, i2⟩ := ih (u / 10) (by omega)
      refine ⟨fun c hc => ?_, ?_⟩
      · rcases List.mem_append.1 hc with hc | hc
        · exact i1 c hc
        · rw [List.mem_singleton] at hc
          subst hc
          omega
      · rw [valD_append, i2, valD_one, hb]
        omega
theorem itoa_nat (n : Nat) : Lib.itoa (n : Int) = Lib.decDigits n := by
  unfold Lib.itoa
  rw [if_neg (by omega), Int.toNat_natCast]
theorem dec_ne (n : Nat) : Lib.decDigits n ≠ [] := by
  intro e
  have := Lib.decDigits_length n
  have := Lib.nDigits_pos n
  rw [e] at *
  simp at *
  omega
theorem atoi_itoa {n : Nat} (h : n < 9223372036854775808) : Lib.atoiAll (Lib.itoa (n : Int)) = .ok (n : Int) := by
  rw [itoa_nat]
  obtain ⟨h1, h2⟩ := dec_all n
  have hp := parse_digits (Lib.decDigits n) 0 h1 (by rw [h2]; omega)
  rw [h2] at hp
  have hn := dec_ne n
  generalize Lib.decDigits n = l at *
  cases l with
  | nil => exact absurd rfl hn
  | cons c r =>
    have hc := h1 c (List.mem_cons_self ..)
    rw [Lib.atoiAll_plain c r (by omega) (by omega)]
    unfold Lib.parseMag
    rw [if_neg hn, hp]
    simp only [Lib.signless]
    rw [if_neg (by omega)]
theorem gnum_itoa {n : Nat} (h : n ≤ 4611686018427387904) : gnum (Lib.itoa (n : Int)) = some n := by
  unfold gnum
  rw [atoi_itoa (by omega)]
  simp only
  rw [if_pos ⟨by omega, by omega, trivial⟩, Int.toNat_natCast]

theorem index_hit1 (c : UInt8) : ∀ (p l : List UInt8), c ∉ p → Lib.index (p ++ c :: l) [c] = (p.length : Int)
  | [], l, _ => by simp [Lib.index]
  | b :: p, l, h => by
    have hb : ¬ c = b := fun e => h (by rw [e]; exact List.mem_cons_self ..)
    have ih := index_hit1 c p l (fun e => h (List.mem_cons_of_mem _ e))
    rw [List.cons_append]
    unfold Lib.index
    rw [if_neg (by simpa using hb), ih, if_neg (by rw [beq_iff_eq]; omega), List.length_cons]
    omega
theorem index_miss1 (c : UInt8) : ∀ (p : List UInt8), c ∉ p → Lib.index p [c] = -1
  | [], _ => rfl
  | b :: p, h => by
    have hb : ¬ c = b := fun e => h (by rw [e]; exact List.mem_cons_self ..)
    unfold Lib.index
    rw [if_neg (by simpa using hb), index_miss1 c p (fun e => h (List.mem_cons_of_mem _ e))]
    rfl
theorem splitK_join (c : UInt8) : ∀ (ps : List (List UInt8)) (k : Nat), ps ≠ [] → (∀ p ∈ ps, c ∉ p) → ps.length ≤ k + 1 → Lib.splitK [c] 0 k (Lib.join ps [c]) = ps
  | [], _, h, _, _ => absurd rfl h
  | [p], k, _, h, _ => by
    rw [Lib.join_one]
    cases k with
    | zero => rfl
    | succ k =>
      unfold Lib.splitK
      rw [if_pos (by rw [index_miss1 c p (h p (List.mem_cons_self ..))]; rfl)]
  | p :: q :: r, k, _, h, hk => by
    obtain ⟨k, rfl⟩ : ∃ j, k = j + 1 := ⟨k - 1, by simp only [List.length_cons] at hk; omega⟩
    rw [Lib.join_cons, joinTail_cons]
    unfold Lib.splitK
    rw [index_hit1 c p _ (h p (List.mem_cons_self ..)), if_neg (by rw [beq_iff_eq]; omega), Int.toNat_natCast, Nat.add_zero, List.length_singleton]
    rw [List.take_left, ← List.drop_drop, List.drop_left, List.drop_one, List.tail_cons]
    rw [splitK_join c (q :: r) k (by simp) (fun p hp => h p (List.mem_cons_of_mem _ hp)) (by simp only [List.length_cons] at hk ⊢; omega)]

theorem dec_no {c : UInt8} (hc : c.toNat < 48) (n : Nat) : c ∉ Lib.itoa (n : Int) := by
  rw [itoa_nat]
  intro h
  have := (dec_all n).1 c h
  omega
theorem oct_gnum (n k : Nat) : gnum (oct n k) = some (n / 2 ^ (24 - 8 * k) % 256) := gnum_itoa (by omega)
theorem dots_put4 (n : Nat) : (dots ⟨(put4 n).toArray⟩).map (·.data.toList) = [oct n 0, oct n 1, oct n 2, oct n 3] := by
  unfold dots
  rw [Lib.splitB_data]
  have hl : (ByteArray.mk (put4 n).toArray).size = (put4 n).length := rfl
  have h3 : 3 ≤ (put4 n).length := by
    unfold put4
    rw [Lib.join_length]
    simp only [List.length_cons, List.length_nil]
    omega
  refine splitK_join 46 _ _ (by simp) ?_ (by rw [hl]; simp only [List.length_cons, List.length_nil]; omega)
  intro p hp
  simp only [List.mem_cons, List.not_mem_nil, or_false] at hp
  rcases hp with rfl | rfl | rfl | rfl <;> exact dec_no (by decide) _
theorem get4_put4 {n : Nat} (h : n < 4294967296) : get4 ⟨(put4 n).toArray⟩ = some n := by
  have hm := dots_put4 n
  have hl : (dots ⟨(put4 n).toArray⟩).length = 4 := by
    have := congrArg List.length hm
    simpa using this
  unfold get4
  rw [if_pos hl]
  generalize dots ⟨(put4 n).toArray⟩ = ps at *
  match ps, hl with
  | [p0, p1, p2, p3], _ =>
    simp only [List.map_cons, List.map_nil, List.cons.injEq, and_true] at hm
    obtain ⟨e0, e1, e2, e3⟩ := hm
    simp only [fold4, e0, e1, e2, e3, oct_gnum]
    rw [if_pos (by omega), if_pos (by omega), if_pos (by omega), if_pos (by omega)]
    congr 1
    omega

theorem grpF_append : ∀ (l m : List UInt8) (acc : Nat), grpF acc (l ++ m) = (grpF acc l).bind fun x => grpF x m
  | [], _, _ => rfl
  | c :: r, m, acc => by
    have e1 : grpF acc ((c :: r) ++ m) = if 0 ≤ gx c then grpF (acc * 16 + (gx c).toNat) (r ++ m) else none := rfl
    have e2 : grpF acc (c :: r) = if 0 ≤ gx c then grpF (acc * 16 + (gx c).toNat) r else none := rfl
    rw [e1, e2]
    split
    · exact grpF_append r m _
    · rfl
theorem grpF_hexN (n : Nat) : grpF 0 (hexN n) = some n := by
  induction n using Nat.strongRecOn with
  | _ n ih =>
    by_cases h : n < 16
    · have := (hexd_hx ⟨n, h⟩).2.1
      simp only at this
      rw [hexN_small h]
      simp only [grpF, this]
      rw [if_pos (by omega)]
      congr 1
      omega
    · have := (hexd_hx ⟨n % 16, by omega⟩).2.1
      simp only at this
      rw [hexN_big h, grpF_append, ih (n / 16) (by omega), Option.bind_some]
      simp only [grpF, this]
      rw [if_pos (by omega)]
      congr 1
      omega
theorem hexN_ne (n : Nat) : hexN n ≠ [] := by
  by_cases h : n < 16
  · rw [hexN_small h]; simp
  · rw [hexN_big h]; simp
theorem hexN_mem (n : Nat) : ∀ c ∈ hexN n, ∃ i : Fin 16, c = hexd i.val := by
  induction n using Nat.strongRecOn with
  | _ n ih =>
    intro c hc
    by_cases h : n < 16
    · rw [hexN_small h, List.mem_singleton] at hc
      exact ⟨⟨n, h⟩, hc⟩
    · rw [hexN_big h] at hc
      rcases List.mem_append.1 hc with hc | hc
      · exact ih (n / 16) (by omega) c hc
      · rw [List.mem_singleton] at hc
        exact ⟨⟨n % 16, by omega⟩, hc⟩
theorem hexN_no (n : Nat) : (58 : UInt8) ∉ hexN n := by
  intro h
  obtain ⟨i, e⟩ := hexN_mem n _ h
  exact (hexd_hx i).2.2 e.symm
theorem grp_hexN {n : Nat} (h : n < 65536) : grp (hexN n) = some n := by
  unfold grp
  rw [if_neg, grpF_hexN]
  have h4 : (hexN n).length ≤ 4 := hexN_len (k := 3) h
  rintro (e | e)
  · exact hexN_ne n e
  · omega
theorem mapAll_hex : ∀ (ps : List ByteArray) (xs : List Nat), (∀ x ∈ xs, x < 65536) → ps.map (·.data.toList) = xs.map hexN → mapAll ps = some xs
  | [], [], _, _ => rfl
  | [], x :: xs, _, h => by simp at h
  | p :: ps, [], _, h => by simp at h
  | p :: ps, x :: xs, hx, h => by
    simp only [List.map_cons, List.cons.injEq] at h
    unfold mapAll
    rw [h.1, grp_hexN (hx x (List.mem_cons_self ..)), mapAll_hex ps xs (fun y hy => hx y (List.mem_cons_of_mem _ hy)) h.2]
    rfl
theorem putG_cons (x y : Nat) (r : List Nat) : putG (x :: y :: r) = hexN x ++ 58 :: putG (y :: r) := by
  unfold putG
  rw [List.map_cons, List.map_cons, Lib.join_cons, joinTail_cons]
theorem putG_one (x : Nat) : putG [x] = hexN x := by
  unfold putG
  rw [List.map_cons, List.map_nil, Lib.join_one]
theorem putG_head (y : Nat) (r : List Nat) : ∃ c t, putG (y :: r) = c :: t ∧ c ≠ 58 := by
  have hn := hexN_ne y
  have hc := hexN_no y
  cases hh : hexN y with
  | nil => exact absurd hh hn
  | cons c t =>
    refine ⟨c, t ++ (putG (y :: r)).drop (hexN y).length, ?_, fun e => hc (by rw [hh, e]; exact List.mem_cons_self ..)⟩
    rw [← List.cons_append, ← hh]
    cases r with
    | nil => rw [putG_one]; simp
    | cons z r => rw [putG_cons]; simp
theorem row6_putG {s : ByteArray} {xs : List Nat} (h : s.data.toList = putG xs) (hx : ∀ x ∈ xs, x < 65536) (hl : xs.length ≤ 8) : row6 s = some xs := by
  unfold row6
  cases xs with
  | nil =>
    rw [if_pos (by rw [h]; rfl)]
  | cons y r =>
    obtain ⟨c, t, e, _⟩ := putG_head y r
    rw [if_neg (by rw [h, e]; simp)]
    refine mapAll_hex _ _ hx ?_
    unfold cols
    rw [Lib.splitB_data, h]
    have hs : s.size = (putG (y :: r)).length := by rw [← h]; rfl
    have h3 : r.length ≤ (putG (y :: r)).length := by
      unfold putG
      rw [List.map_cons, Lib.join_length]
      simp only [List.length_cons, List.length_nil, List.length_map]
      omega
    rw [hs]
    refine splitK_join 58 _ _ (by simp) ?_ ?_
    · intro p hp
      obtain ⟨x, _, rfl⟩ := List.mem_map.1 hp
      exact hexN_no x
    · rw [List.length_map, List.length_cons]
      simp only [List.length_cons] at hl
      omega

/-- the places of two colons side by side -/
def prs : List UInt8 → Nat
  | a :: b :: r => (if a = 58 ∧ b = 58 then 1 else 0) + prs (b :: r)
  | _ => 0
theorem index_cons (b : UInt8) (l sub : List UInt8) : Lib.index (b :: l) sub = if sub.isPrefixOf (b :: l) then 0 else if Lib.index l sub == -1 then -1 else Lib.index l sub + 1 := by rw [Lib.index]
theorem prs_cons (a b : UInt8) (r : List UInt8) : prs (a :: b :: r) = (if a = 58 ∧ b = 58 then 1 else 0) + prs (b :: r) := rfl
/-- what one byte ahead that begins no pair does -/
theorem cc_step {b : UInt8} {l : List UInt8} (h : ¬ (b = 58 ∧ l.head? = some 58)) : Lib.index (b :: l) [58, 58] = (if Lib.index l [58, 58] = -1 then -1 else Lib.index l [58, 58] + 1) ∧ prs (b :: l) = prs l := by
  refine ⟨?_, ?_⟩
  · rw [index_cons, if_neg]
    · by_cases hm : Lib.index l [58, 58] = -1
      · rw [hm]; rfl
      · rw [if_neg (by simpa using hm), if_neg hm]
    · intro e
      cases l with
      | nil => simp [List.isPrefixOf] at e
      | cons c t =>
        simp only [List.isPrefixOf, Bool.and_true, Bool.and_eq_true, beq_iff_eq] at e
        exact h ⟨e.1.symm, by rw [List.head?_cons, e.2]⟩
  · cases l with
    | nil => rfl
    | cons c t =>
      rw [prs_cons, if_neg, Nat.zero_add]
      rintro ⟨e1, e2⟩
      exact h ⟨e1, by rw [List.head?_cons, e2]⟩
theorem cc_skip : ∀ (p l : List UInt8), (58 : UInt8) ∉ p → Lib.index (p ++ l) [58, 58] = (if Lib.index l [58, 58] = -1 then -1 else Lib.index l [58, 58] + (p.length : Int)) ∧ prs (p ++ l) = prs l
  | [], l, _ => by
    refine ⟨?_, rfl⟩
    rw [List.nil_append]
    split
    · assumption
    · simp
  | b :: p, l, h => by
    have hb : ¬ b = 58 := fun e => h (by rw [e]; exact List.mem_cons_self ..)
    obtain ⟨i1, i2⟩ := cc_skip p l (fun e => h (List.mem_cons_of_mem _ e))
    obtain ⟨j1, j2⟩ := cc_step (b := b) (l := p ++ l) (fun e => hb e.1)
    rw [List.cons_append]
    refine ⟨?_, j2.trans i2⟩
    have hg := Lib.index_ge l [58, 58]
    rw [j1, i1]
    by_cases hm : Lib.index l [58, 58] = -1
    · rw [if_pos hm, if_pos rfl, if_pos hm]
    · rw [if_neg hm, if_neg hm, if_neg (by omega), List.length_cons]
      omega
theorem head_putG (y : Nat) (r : List Nat) (l : List UInt8) : (putG (y :: r) ++ l).head? ≠ some 58 := by
  obtain ⟨c, t, e, hc⟩ := putG_head y r
  rw [e, List.cons_append, List.head?_cons]
  intro h
  exact hc (Option.some.inj h)
theorem putG_cc : ∀ xs : List Nat, Lib.index (putG xs) [58, 58] = -1 ∧ prs (putG xs) = 0
  | [] => ⟨rfl, rfl⟩
  | [x] => by
    have := cc_skip (hexN x) [] (hexN_no x)
    rw [List.append_nil] at this
    rw [putG_one]
    exact this
  | x :: y :: r => by
    obtain ⟨i1, i2⟩ := putG_cc (y :: r)
    have hh := head_putG y r []
    rw [List.append_nil] at hh
    obtain ⟨j1, j2⟩ := cc_step (b := 58) (l := putG (y :: r)) (fun e => hh e.2)
    obtain ⟨k1, k2⟩ := cc_skip (hexN x) (58 :: putG (y :: r)) (hexN_no x)
    rw [putG_cons, k1, k2, j1, j2, i1, i2]
    exact ⟨rfl, rfl⟩
theorem putG_hit : ∀ (xs : List Nat) (t : List UInt8), Lib.index (putG xs ++ 58 :: 58 :: t) [58, 58] = ((putG xs).length : Int) ∧ prs (putG xs ++ 58 :: 58 :: t) = 1 + prs (58 :: t)
  | [], t => ⟨by rw [show putG [] = [] from rfl, List.nil_append, index_cons, if_pos (by simp [List.isPrefixOf])]; rfl, by rw [show putG [] = [] from rfl, List.nil_append, prs_cons, if_pos ⟨rfl, rfl⟩]⟩
  | [x], t => by
    obtain ⟨k1, k2⟩ := cc_skip (hexN x) (58 :: 58 :: t) (hexN_no x)
    obtain ⟨i1, i2⟩ := putG_hit [] t
    rw [show putG [] = [] from rfl, List.nil_append] at i1 i2
    rw [putG_one, k1, k2, i1, i2]
    exact ⟨by simp, rfl⟩
  | x :: y :: r, t => by
    obtain ⟨i1, i2⟩ := putG_hit (y :: r) t
    obtain ⟨j1, j2⟩ := cc_step (b := 58) (l := putG (y :: r) ++ 58 :: 58 :: t) (fun e => head_putG y r _ e.2)
    obtain ⟨k1, k2⟩ := cc_skip (hexN x) (58 :: (putG (y :: r) ++ 58 :: 58 :: t)) (hexN_no x)
    rw [putG_cons, List.append_assoc, List.cons_append, k1, k2, j1, j2, i1, i2]
    refine ⟨?_, rfl⟩
    rw [if_neg (by omega), if_neg (by omega), List.length_append, List.length_cons]
    omega

theorem gap_zero (g : Nat → Nat) : ∀ k, (∀ j, (gapS g k).1 ≤ j → j < (gapS g k).2.1 → g j = 0) ∧ (∀ j, (gapS g k).2.2 ≤ j → j < k → g j = 0)
  | 0 => ⟨fun j _ h => by simp [gapS] at h, fun j _ h => by omega⟩
  | k + 1 => by
    have hi := gap_zero g k
    have hl := gapS_le g k
    obtain ⟨F, T, B, h⟩ : ∃ F T B, gapS g k = (F, T, B) := ⟨_, _, _, rfl⟩
    rw [h] at hi hl
    simp only at hi hl
    obtain ⟨i1, i2⟩ := hi
    rw [gap_step h rfl]
    have hb : ∀ j, (if g k = 0 then B else k + 1) ≤ j → j < k + 1 → g j = 0 := by
      intro j h1 h2
      by_cases hk : g k = 0
      · rw [if_pos hk] at h1
        by_cases e : j = k
        · rw [e]; exact hk
        · exact i2 j h1 (by omega)
      · rw [if_neg hk] at h1; omega
    generalize (if g k = 0 then B else k + 1) = B' at hb ⊢
    split
    · exact ⟨hb, hb⟩
    · exact ⟨i1, hb⟩
theorem part_div (a : Nat) : ∀ k, k ≤ 8 → part (fun j => a / 2 ^ ((7 - j) * 16) % 65536) k = a / 2 ^ ((8 - k) * 16) % 65536 ^ k
  | 0, _ => by simp [part]; omega
  | k + 1, h => by
    simp only [part]
    rw [part_div a k (by omega)]
    have e : a / 2 ^ ((8 - k) * 16) = a / 2 ^ ((8 - (k + 1)) * 16) / 65536 := by
      rw [Nat.div_div_eq_div_mul, show (65536 : Nat) = 2 ^ 16 from rfl, ← Nat.pow_add]
      congr 2
      omega
    rw [show 7 - k = 8 - (k + 1) by omega, e, Nat.pow_succ]
    generalize a / 2 ^ ((8 - (k + 1)) * 16) = x
    rw [Nat.mul_comm (65536 ^ k) 65536, Nat.mod_mul, Nat.mul_comm 65536, Nat.add_comm]
theorem part_grp {a : Nat} (h : Fits a) : part (grpA a) 8 = a := by
  have := part_div a 8 (Nat.le_refl _)
  unfold Fits at h
  rw [show (fun j => a / 2 ^ ((7 - j) * 16) % 65536) = grpA a from rfl] at this
  rw [this]
  simp
  omega
theorem part_congr {f g : Nat → Nat} : ∀ k, (∀ j, j < k → f j = g j) → part f k = part g k
  | 0, _ => rfl
  | k + 1, h => by
    simp only [part]
    rw [part_congr k (fun j hj => h j (by omega)), h k (by omega)]
theorem fill8_at {a F T : Nat} (h1 : F ≤ T) (h2 : T ≤ 8) (hz : ∀ j, F ≤ j → j < T → grpA a j = 0) (j : Nat) (hj : j < 8) : fill8 (rowA (grpA a) 0 F) (rowA (grpA a) T (8 - T)) j = grpA a j := by
  unfold fill8
  rw [rowA_len, rowA_len, List.getD_eq_getElem?_getD]
  by_cases c1 : j < F
  · rw [List.append_assoc, List.getElem?_append_left (by rw [rowA_len]; omega)]
    simp [rowA, List.getElem?_range c1]
  · by_cases c2 : j < T
    · rw [List.append_assoc, List.getElem?_append_right (by rw [rowA_len]; omega), rowA_len, List.getElem?_append_left (by simp; omega), List.getElem?_replicate, if_pos (by omega)]
      exact (hz j (by omega) c2).symm
    · rw [List.getElem?_append_right (by simp [rowA_len]; omega)]
      simp only [List.length_append, List.length_replicate, rowA_len]
      rw [show j - (F + (8 - F - (8 - T))) = j - T by omega]
      simp only [rowA, List.getElem?_map]
      rw [List.getElem?_range (by omega)]
      simp only [Option.map_some, Option.getD_some]
      congr 1
      omega
theorem six_of {a F T : Nat} (ha : Fits a) (h1 : F ≤ T) (h2 : T ≤ 8) (hz : ∀ j, F ≤ j → j < T → grpA a j = 0) : six (rowA (grpA a) 0 F) (rowA (grpA a) T (8 - T)) = a := by
  unfold six
  rw [part_congr 8 (fill8_at h1 h2 hz), part_grp ha]
theorem get6_put6 {a : Nat} (ha : Fits a) : get6 ⟨(put6L a).toArray⟩ = some a := by
  have hl := gapS_le (grpA a) 8
  have hz := (gap_zero (grpA a) 8).1
  obtain ⟨F, hF⟩ : ∃ F, (gapS (grpA a) 8).1 = F := ⟨_, rfl⟩
  obtain ⟨T, hT⟩ : ∃ T, (gapS (grpA a) 8).2.1 = T := ⟨_, rfl⟩
  rw [hF, hT] at hl hz
  obtain ⟨g1, g2, _⟩ := hl
  by_cases hc : T - F < 2
  · rw [put6_long (by rw [hF, hT]; exact hc)]
    have hi := (putG_cc (rowA (grpA a) 0 8)).1
    have hcut : Lib.cut (putG (rowA (grpA a) 0 8)) [58, 58] = (putG (rowA (grpA a) 0 8), [], false) := by
      unfold Lib.cut; rw [if_neg (by omega)]
    have e1 : (sideL ⟨(putG (rowA (grpA a) 0 8)).toArray⟩).data.toList = putG (rowA (grpA a) 0 8) := by unfold sideL; simp only [hcut]
    have e2 : (sideR ⟨(putG (rowA (grpA a) 0 8)).toArray⟩).data.toList = putG [] := by unfold sideR; simp only [hcut]; rfl
    have e3 : sideO ⟨(putG (rowA (grpA a) 0 8)).toArray⟩ = false := by unfold sideO; simp only [hcut]
    unfold get6
    rw [row6_putG e1 (rowA_lt a 0 8) (by rw [rowA_len]; omega), row6_putG e2 (by simp) (by simp)]
    simp only
    rw [if_pos (Or.inr ⟨e3, by rw [rowA_len]; rfl⟩)]
    have := six_of (F := 8) (T := 8) ha (Nat.le_refl _) (Nat.le_refl _) (fun j h1 h2 => by omega)
    rw [show rowA (grpA a) 8 (8 - 8) = [] from rfl] at this
    rw [this]
  · rw [put6_cut hF hT hc, List.append_assoc]
    obtain ⟨hi, _⟩ := putG_hit (rowA (grpA a) 0 F) (putG (rowA (grpA a) T (8 - T)))
    rw [show ([58, 58] : List UInt8) ++ putG (rowA (grpA a) T (8 - T)) = 58 :: 58 :: putG (rowA (grpA a) T (8 - T)) from rfl]
    have hcut : Lib.cut (putG (rowA (grpA a) 0 F) ++ 58 :: 58 :: putG (rowA (grpA a) T (8 - T))) [58, 58] = (putG (rowA (grpA a) 0 F), putG (rowA (grpA a) T (8 - T)), true) := by
      unfold Lib.cut
      rw [hi, if_pos (by omega), Int.toNat_natCast, List.take_left, ← List.drop_drop, List.drop_left]
      rfl
    generalize hq : putG (rowA (grpA a) 0 F) ++ 58 :: 58 :: putG (rowA (grpA a) T (8 - T)) = q at hcut
    have e1 : (sideL ⟨q.toArray⟩).data.toList = putG (rowA (grpA a) 0 F) := by unfold sideL; simp only [hcut]
    have e2 : (sideR ⟨q.toArray⟩).data.toList = putG (rowA (grpA a) T (8 - T)) := by unfold sideR; simp only [hcut]
    have e3 : sideO ⟨q.toArray⟩ = true := by unfold sideO; simp only [hcut]
    unfold get6
    rw [row6_putG e1 (rowA_lt a 0 F) (by rw [rowA_len]; omega), row6_putG e2 (rowA_lt a T _) (by rw [rowA_len]; omega)]
    simp only
    rw [if_pos (Or.inl ⟨e3, by rw [rowA_len, rowA_len]; omega⟩), six_of ha g1 g2 hz]
theorem putG_mem (xs : List Nat) : ∀ c ∈ putG xs, c = 58 ∨ ∃ i : Fin 16, c = hexd i.val := by
  match xs with
  | [] => intro c hc; cases hc
  | [x] => intro c hc; rw [putG_one] at hc; exact Or.inr (hexN_mem x c hc)
  | x :: y :: r =>
    intro c hc
    rw [putG_cons] at hc
    rcases List.mem_append.1 hc with hc | hc
    · exact Or.inr (hexN_mem x c hc)
    · rcases List.mem_cons.1 hc with hc | hc
      · exact Or.inl hc
      · exact putG_mem (y :: r) c hc
theorem small_fin : ∀ i : Fin 16, ¬ (65 ≤ (hexd i.val).toNat ∧ (hexd i.val).toNat ≤ 70) := by decide +kernel
theorem put6_parts (a : Nat) : (∃ xs, put6L a = putG xs ∧ xs.length = 8 ∧ ∀ x ∈ xs, x < 65536) ∨ ∃ xs ys, put6L a = putG xs ++ 58 :: 58 :: putG ys ∧ xs.length + ys.length ≤ 6 ∧ (∀ x ∈ xs, x < 65536) ∧ ∀ y ∈ ys, y < 65536 := by
  have hl := gapS_le (grpA a) 8
  obtain ⟨F, hF⟩ : ∃ F, (gapS (grpA a) 8).1 = F := ⟨_, rfl⟩
  obtain ⟨T, hT⟩ : ∃ T, (gapS (grpA a) 8).2.1 = T := ⟨_, rfl⟩
  rw [hF, hT] at hl
  obtain ⟨g1, g2, _⟩ := hl
  by_cases hc : T - F < 2
  · exact Or.inl ⟨_, put6_long (by rw [hF, hT]; exact hc), rowA_len _ _ _, rowA_lt a _ _⟩
  · refine Or.inr ⟨_, _, ?_, ?_, rowA_lt a 0 F, rowA_lt a T (8 - T)⟩
    · rw [put6_cut hF hT hc, List.append_assoc]; rfl
    · rw [rowA_len, rowA_len]; omega
theorem putG_len5 (xs : List Nat) (h : ∀ x ∈ xs, x < 65536) : (putG xs).length + 1 ≤ 5 * xs.length + 1 ∧ (xs ≠ [] → (putG xs).length + 1 ≤ 5 * xs.length) := by
  cases xs with
  | nil => exact ⟨by simp [putG, Lib.join_nil], fun h => absurd rfl h⟩
  | cons x r =>
    have h1 := lens_le (x :: r) h
    have h2 : (putG (x :: r)).length = 1 * r.length + Lib.lens ((x :: r).map hexN) := by
      unfold putG
      rw [List.map_cons, Lib.join_length, List.length_map]
      rfl
    simp only [List.length_cons] at *
    exact ⟨by omega, fun _ => by omega⟩
theorem put6_look (a : Nat) : (put6L a).length ≤ 39 ∧ prs (put6L a) ≤ 1 ∧ ∀ c ∈ put6L a, ¬ (65 ≤ c.toNat ∧ c.toNat ≤ 70) := by
  have hs : ∀ xs, ∀ c ∈ putG xs, ¬ (65 ≤ c.toNat ∧ c.toNat ≤ 70) := by
    intro xs c hc
    rcases putG_mem xs c hc with e | ⟨i, e⟩
    · rw [e]; decide
    · rw [e]; exact small_fin i
  rcases put6_parts a with ⟨xs, e, hl, hx⟩ | ⟨xs, ys, e, hl, hx, hy⟩
  · rw [e]
    have h1 := (putG_len5 xs hx).2 (by intro e; rw [e] at hl; simp at hl)
    exact ⟨by omega, by rw [(putG_cc xs).2]; omega, hs xs⟩
  · rw [e]
    have h1 := (putG_len5 xs hx).1
    have h2 := (putG_len5 ys hy).1
    refine ⟨by rw [List.length_append, List.length_cons, List.length_cons]; omega, ?_, ?_⟩
    · rw [(putG_hit xs _).2]
      have : prs (58 :: putG ys) = 0 := by
        cases ys with
        | nil => rfl
        | cons y r =>
          have hh := head_putG y r []
          rw [List.append_nil] at hh
          rw [(cc_step (b := 58) (l := putG (y :: r)) (fun e => hh e.2)).2, (putG_cc (y :: r)).2]
      omega
    · intro c hc
      rcases List.mem_append.1 hc with hc | hc
      · exact hs xs c hc
      · rcases List.mem_cons.1 hc with hc | hc
        · rw [hc]; decide
        · rcases List.mem_cons.1 hc with hc | hc
          · rw [hc]; decide
          · exact hs ys c hc
theorem put6_ne (a : Nat) : put6L a ≠ [] := by
  rcases put6_parts a with ⟨xs, e, hl, _⟩ | ⟨xs, ys, e, _⟩
  · rw [e]
    cases xs with
    | nil => simp at hl
    | cons y r =>
      obtain ⟨c, t, e, _⟩ := putG_head y r
      rw [e]; simp
  · rw [e]; simp
theorem put4_ne (n : Nat) : put4 n ≠ [] := by
  intro e
  have : 3 ≤ (put4 n).length := by
    unfold put4
    rw [Lib.join_length]
    simp only [List.length_cons, List.length_nil]
    omega
  rw [e] at this
  simp at this

theorem join_no {c : UInt8} {sep : UInt8} (hs : c ≠ sep) : ∀ ps : List (List UInt8), (∀ p ∈ ps, c ∉ p) → c ∉ Lib.join ps [sep]
  | [], _ => by simp [Lib.join_nil]
  | [p], h => by rw [Lib.join_one]; exact h p (List.mem_cons_self ..)
  | p :: q :: r, h => by
    rw [Lib.join_cons, joinTail_cons]
    intro e
    rcases List.mem_append.1 e with e | e
    · exact h p (List.mem_cons_self ..) e
    · rcases List.mem_cons.1 e with e | e
      · exact hs e
      · exact join_no hs (q :: r) (fun p hp => h p (List.mem_cons_of_mem _ hp)) e
theorem put4_slash (n : Nat) : (47 : UInt8) ∉ put4 n := by
  unfold put4
  refine join_no (by decide) _ ?_
  intro p hp
  simp only [List.mem_cons, List.not_mem_nil, or_false] at hp
  rcases hp with rfl | rfl | rfl | rfl <;> exact dec_no (by decide) _
theorem hex_slash : ∀ i : Fin 16, hexd i.val ≠ 47 := by decide +kernel
theorem putG_slash (xs : List Nat) : (47 : UInt8) ∉ putG xs := by
  intro h
  rcases putG_mem xs _ h with e | ⟨i, e⟩
  · exact absurd e (by decide)
  · exact hex_slash i e.symm
theorem put6_slash (a : Nat) : (47 : UInt8) ∉ put6L a := by
  rcases put6_parts a with ⟨xs, e, _⟩ | ⟨xs, ys, e, _⟩
  · rw [e]; exact putG_slash xs
  · rw [e]
    intro h
    rcases List.mem_append.1 h with h | h
    · exact putG_slash xs h
    · rcases List.mem_cons.1 h with h | h
      · exact absurd h (by decide)
      · rcases List.mem_cons.1 h with h | h
        · exact absurd h (by decide)
        · exact putG_slash ys h
theorem putL_slash (fam : Int) (a : Nat) : (47 : UInt8) ∉ putL fam a := by
  unfold putL
  split
  · split
    · exact put4_slash a
    · simp
  · split
    · exact put6_slash a
    · simp
theorem get_put {fam : Int} {a : Nat} (ha : Fits a) (h : putL fam a ≠ []) : gV fam ⟨(putL fam a).toArray⟩ = a ∧ gO fam ⟨(putL fam a).toArray⟩ = true := by
  unfold putL at h ⊢
  unfold gV gO
  by_cases h4 : fam = 4
  · rw [if_pos h4] at h ⊢
    by_cases hs : a < 4294967296
    · rw [if_pos hs]
      rw [if_pos h4, if_pos h4]
      exact get4_some (get4_put4 hs)
    · rw [if_neg hs] at h; exact absurd rfl h
  · rw [if_neg h4] at h ⊢
    by_cases h6 : fam = 6
    · rw [if_pos h6]
      rw [if_neg h4, if_pos h6, if_neg h4, if_pos h6]
      exact get6_some (get6_put6 ha)
    · rw [if_neg h6] at h; exact absurd rfl h
theorem sound_bounds {p : Nat} {n : Int} (h : soundS p n = true) : 0 ≤ n ∧ n ≤ 128 := (sound_iff.1 h).1
theorem bits_small {fam n : Int} (h0 : 0 ≤ n) (h1 : n ≤ 128) : bitsN fam n = n - outS fam := by
  unfold bitsN
  have : outS fam = 96 ∨ outS fam = 0 := by unfold outS; split <;> omega
  exact IntWalk.i64_in _ ⟨by omega, by omega⟩
theorem gp_pp {fam : Int} {p : Nat} {n : Int} (hp : Fits p) (h : ppL fam p n ≠ []) : gpO fam ⟨(ppL fam p n).toArray⟩ = true ∧ gpV fam ⟨(ppL fam p n).toArray⟩ = Pv p n ∧ soundS p n = true := by
  unfold ppL at h ⊢
  split at h
  · exact absurd rfl h
  rename_i hc
  rw [if_neg hc]
  have h1 : putL fam p ≠ [] := fun e => hc (Or.inl e)
  have h2 : 0 ≤ bitsN fam n := by
    rcases Int.lt_or_le (bitsN fam n) 0 with e | e
    · exact absurd (Or.inr (Or.inl e)) hc
    · exact e
  have h3 : soundS p n = true := by
    cases e : soundS p n with
    | true => rfl
    | false => exact absurd (Or.inr (Or.inr e)) hc
  obtain ⟨b0, b1⟩ := sound_bounds h3
  have hb := bits_small (fam := fam) b0 b1
  have ho : outS fam = 96 ∨ outS fam = 0 := by unfold outS; split <;> omega
  obtain ⟨m, hm⟩ : ∃ m : Nat, bitsN fam n = m := ⟨(bitsN fam n).toNat, by omega⟩
  rw [hm]
  rw [List.append_assoc, show ([47] : List UInt8) ++ Lib.itoa (m : Int) = 47 :: Lib.itoa (m : Int) from rfl]
  have hi := index_hit1 47 (putL fam p) (Lib.itoa (m : Int)) (putL_slash fam p)
  have hcut : Lib.cut (putL fam p ++ 47 :: Lib.itoa (m : Int)) [47] = (putL fam p, Lib.itoa (m : Int), true) := by
    unfold Lib.cut
    rw [hi, if_pos (by omega), Int.toNat_natCast, List.take_left, ← List.drop_drop, List.drop_left]
    rfl
  generalize hq : putL fam p ++ 47 :: Lib.itoa (m : Int) = q at hcut
  have e1 : slL ⟨q.toArray⟩ = ⟨(putL fam p).toArray⟩ := by unfold slL; simp only [hcut]
  have e2 : (slR ⟨q.toArray⟩).data.toList = Lib.itoa (m : Int) := by unfold slR; simp only [hcut]
  obtain ⟨v1, v2⟩ := get_put hp h1
  obtain ⟨n1, n2⟩ := gnum_some (gnum_itoa (n := m) (by omega))
  have hn : gpN fam ⟨q.toArray⟩ = n := by
    unfold gpN
    rw [e2, n1]
    omega
  have hO : gpO fam ⟨q.toArray⟩ = true := by
    unfold gpO
    rw [hn, e1, e2, v1, v2, n2, h3]
    rfl
  refine ⟨hO, ?_, h3⟩
  unfold gpV
  rw [hO, if_pos rfl, hn, e1, v1]
theorem gp_none (fam : Int) (h : fam = 4 ∨ fam = 6) : gpO fam ⟨([] : List UInt8).toArray⟩ = false := by
  rcases h with rfl | rfl
  · exact show gpO 4 ⟨#[]⟩ = false by kernel_rfl
  · exact show gpO 6 ⟨#[]⟩ = false by kernel_rfl
/-- what is read as a prefix has a text -/
theorem pp_gp {fam : Int} {s : ByteArray} (h : gpO fam s = true) : ppL fam (gV fam (slL s)) (gpN fam s) ≠ [] ∧ soundS (gV fam (slL s)) (gpN fam s) = true := by
  unfold gpO at h
  simp only [Bool.and_eq_true] at h
  obtain ⟨h1, h2, h3⟩ := h
  obtain ⟨b0, b1⟩ := sound_bounds h3
  have hb := bits_small (fam := fam) b0 b1
  have hn := numV_bounds (slR s).data.toList
  refine ⟨?_, h3⟩
  unfold ppL
  rw [if_neg]
  · simp
  · rintro (e | e | e)
    · unfold putL at e
      unfold gO at h1
      by_cases h4 : fam = 4
      · rw [if_pos h4] at e h1
        have : gV fam (slL s) = g4V (slL s) := by unfold gV; rw [if_pos h4]
        rw [this, if_pos (g4V_lt _)] at e
        exact put4_ne _ e
      · rw [if_neg h4] at e h1
        by_cases h6 : fam = 6
        · rw [if_pos h6] at e; exact put6_ne _ e
        · rw [if_neg h6] at h1; cases h1
    · rw [hb] at e
      unfold gpN at e
      omega
    · rw [h3] at e; cases e
end Go.Proofs.YtmapcllmiomelaaDoor
