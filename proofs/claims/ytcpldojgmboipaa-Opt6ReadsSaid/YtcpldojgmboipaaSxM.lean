/-
  Mathematics of options of DHCPv6 as bytes: what is written, what is read; there and back; every cut. No program is named here. No condition beyond those in each theorem's own statement.
-/
import Derived.Test.YtcpldojgmboipaaLOct
namespace Go.Proofs.Ytcpldojgmboipaa
open Go Go.RowKit

abbrev bs (l : List UInt8) : ByteArray := ⟨l.toArray⟩
abbrev lb (s : ByteArray) : List UInt8 := s.data.toList
theorem bs_lb (s : ByteArray) : bs (lb s) = s := by cases s; simp [lb]
theorem lb_bs (l : List UInt8) : lb (bs l) = l := by simp [lb]
theorem lb_len (s : ByteArray) : (lb s).length = s.size := Array.length_toList
theorem bs_len (l : List UInt8) : (bs l).size = l.length := by rw [← lb_len, lb_bs]
theorem lb_inj {s t : ByteArray} (h : lb s = lb t) : s = t := by rw [← bs_lb s, h, bs_lb]
theorem lb_sub (s : ByteArray) (o n : Nat) : lb (sub s o n) = ((lb s).drop o).take n := sub_list s o n
theorem lb_app (a b : ByteArray) : lb (a ++ b) = lb a ++ lb b := by
  show (a ++ b).data.toList = a.data.toList ++ b.data.toList
  rw [ByteArray.data_append, Array.toList_append]
theorem sub_bs (s : ByteArray) (o n : Nat) : sub s o n = bs (((lb s).drop o).take n) := lb_inj (by rw [lb_sub, lb_bs])
theorem beL_beV : ∀ (k : Nat) (l : List UInt8), l.length = k → beL k (beV l) = l
  | 0, l, h => by
    have : l = [] := List.length_eq_zero_iff.1 h
    subst this; rfl
  | k + 1, l, h => by
    cases l with
    | nil => simp at h
    | cons c l =>
      have hl : l.length = k := by simpa using h
      have e := beV_append [c] l
      have b := beV_lt l
      rw [hl] at e b
      have e0 : beV [c] = c.toNat := by simp [beV, beF]
      rw [List.singleton_append, e0] at e
      have e1 : beV (c :: l) / 256 ^ k = c.toNat := by
        rw [e, Nat.mul_comm, Nat.mul_add_div (pow256 k), Nat.div_eq_of_lt b, Nat.add_zero]
      have e2 : beL k (beV (c :: l)) = beL k (beV l) := by
        rw [← beL_mod k (beV (c :: l)), e, Nat.mul_comm, Nat.mul_add_mod, beL_mod]
      rw [beL, e1, e2, beL_beV k l hl, Nat.mod_eq_of_lt c.toNat_lt, UInt8.ofNat_toNat]
theorem beL2 {l : List UInt8} (h : l.length = 2) : beV l < 65536 := by have := beV_lt l; rw [h] at this; exact this
theorem beL4 {l : List UInt8} (h : l.length = 4) : beV l < 4294967296 := by have := beV_lt l; rw [h] at this; exact this

/-- an option: a code, data -/
abbrev Opt := UInt16 × ByteArray
def optL (x : Opt) : List UInt8 := beL 2 x.1.toNat ++ (beL 2 x.2.size ++ lb x.2)
def emitL : List Opt → List UInt8
  | [] => []
  | x :: l => optL x ++ emitL l
theorem optL_len (x : Opt) : (optL x).length = 4 + x.2.size := by
  unfold optL
  rw [List.length_append, List.length_append, beL_length, beL_length, lb_len]
  omega
theorem emitL_append (l m : List Opt) : emitL (l ++ m) = emitL l ++ emitL m := by
  induction l with
  | nil => rfl
  | cons x l ih => rw [List.cons_append, emitL, emitL, ih, List.append_assoc]
theorem emitL_one (x : Opt) : emitL [x] = optL x := by rw [emitL, emitL, List.append_nil]
/-- data that a length of two bytes serves -/
def okO (l : List Opt) : Prop := ∀ x ∈ l, x.2.size ≤ 65535
theorem okO.tail {x : Opt} {l : List Opt} (h : okO (x :: l)) : okO l := fun y hy => h y (List.mem_cons_of_mem _ hy)
theorem okO.append {l m : List Opt} (h : okO l) (k : okO m) : okO (l ++ m) := fun x hx => by
  rcases List.mem_append.1 hx with h' | h'
  · exact h x h'
  · exact k x h'

/-! ### reading -/
/-- the code, the length, the data of the option that bytes begin with -/
def codeP (s : List UInt8) : Nat := beV (s.take 2)
def lenP (s : List UInt8) : Nat := beV ((s.drop 2).take 2)
def dataP (s : List UInt8) : List UInt8 := (s.drop 4).take (lenP s)
def optP (s : List UInt8) : Opt := (UInt16.ofNat (codeP s), bs (dataP s))
def restP (s : List UInt8) : List UInt8 := s.drop (4 + lenP s)
def addP (pre : List Opt) : Except Int (List Opt) → Except Int (List Opt)
  | .ok l => .ok (pre ++ l)
  | .error e => .error e
theorem addP_nil (x : Except Int (List Opt)) : addP [] x = x := by cases x <;> rfl
theorem addP_add (p q : List Opt) (x : Except Int (List Opt)) : addP p (addP q x) = addP (p ++ q) x := by cases x <;> simp [addP]
def parseF : Nat → Nat → List UInt8 → Except Int (List Opt)
  | 0, _, _ => .ok []
  | f + 1, k, s => if s = [] then .ok [] else if s.length < 4 then .error 3 else if s.length < 4 + lenP s then .error 3 else if 128 ≤ k then .error 6 else addP [optP s] (parseF f (k + 1) (restP s))
/-- options, of which k have been read -/
def parseK (k : Nat) (s : List UInt8) : Except Int (List Opt) := parseF s.length k s
theorem restP_len {s : List UInt8} (h : ¬ s.length < 4) : (restP s).length < s.length := by
  unfold restP; rw [List.length_drop]; omega
theorem parse_fuel : ∀ (f g k : Nat) (s : List UInt8), s.length ≤ f → s.length ≤ g → parseF f k s = parseF g k s
  | 0, g, k, s, hf, _ => by
    have : s = [] := List.length_eq_zero_iff.1 (by omega)
    subst this
    cases g <;> simp [parseF]
  | f + 1, 0, k, s, _, hg => by
    have : s = [] := List.length_eq_zero_iff.1 (by omega)
    subst this
    simp [parseF]
  | f + 1, g + 1, k, s, hf, hg => by
    rw [parseF, parseF]
    by_cases h0 : s = []
    · rw [if_pos h0, if_pos h0]
    rw [if_neg h0, if_neg h0]
    by_cases h1 : s.length < 4
    · rw [if_pos h1, if_pos h1]
    rw [if_neg h1, if_neg h1]
    have := restP_len h1
    rw [parse_fuel f g (k + 1) (restP s) (by omega) (by omega)]
theorem parse_nil (k : Nat) : parseK k [] = .ok [] := rfl
theorem parse_short {k : Nat} {s : List UInt8} (h0 : s ≠ []) (h : s.length < 4) : parseK k s = .error 3 := by
  unfold parseK
  cases hl : s.length with
  | zero => exact absurd (List.length_eq_zero_iff.1 hl) h0
  | succ f => rw [parseF, if_neg h0, if_pos (by omega)]
theorem parse_cut {k : Nat} {s : List UInt8} (h1 : ¬ s.length < 4) (h : s.length < 4 + lenP s) : parseK k s = .error 3 := by
  unfold parseK
  cases hl : s.length with
  | zero => omega
  | succ f => rw [parseF, if_neg (by intro e; subst e; simp at hl), if_neg (by omega), if_pos (by omega)]
theorem parse_many {k : Nat} {s : List UInt8} (h1 : ¬ s.length < 4) (h : ¬ s.length < 4 + lenP s) (hk : 128 ≤ k) : parseK k s = .error 6 := by
  unfold parseK
  cases hl : s.length with
  | zero => omega
  | succ f => rw [parseF, if_neg (by intro e; subst e; simp at hl), if_neg (by omega), if_neg (by omega), if_pos hk]
theorem parse_step {k : Nat} {s : List UInt8} (h1 : ¬ s.length < 4) (h : ¬ s.length < 4 + lenP s) (hk : ¬ 128 ≤ k) : parseK k s = addP [optP s] (parseK (k + 1) (restP s)) := by
  unfold parseK
  cases hl : s.length with
  | zero => omega
  | succ f =>
    have := restP_len h1
    rw [parseF, if_neg (by intro e; subst e; simp at hl), if_neg (by omega), if_neg (by omega), if_neg hk, parse_fuel f _ (k + 1) (restP s) (by omega) (Nat.le_refl _)]
/-! ### there and back -/
theorem optL_parts (x : Opt) (hx : x.2.size ≤ 65535) (r : List UInt8) : codeP (optL x ++ r) = x.1.toNat ∧ lenP (optL x ++ r) = x.2.size ∧ dataP (optL x ++ r) = lb x.2 ∧ restP (optL x ++ r) = r := by
  have hc := x.1.toNat_lt
  have l1 := beL_length 2 x.1.toNat
  have l2 := beL_length 2 x.2.size
  have e1 : codeP (optL x ++ r) = x.1.toNat := by
    unfold codeP optL
    rw [List.append_assoc, List.take_append_of_le_length (by omega), List.take_of_length_le (by omega), beV_beL (by simpa using hc)]
  have e2 : lenP (optL x ++ r) = x.2.size := by
    unfold lenP optL
    rw [List.append_assoc, List.drop_append_of_le_length (by omega), List.drop_of_length_le (by omega), List.nil_append, List.append_assoc, List.take_append_of_le_length (by omega), List.take_of_length_le (by omega), beV_beL (show x.2.size < 256 ^ 2 by omega)]
  have e3 : (optL x ++ r).drop 4 = lb x.2 ++ r := by
    unfold optL
    rw [← List.append_assoc, List.append_assoc, List.drop_append_of_le_length (by rw [List.length_append]; omega), List.drop_of_length_le (by rw [List.length_append]; omega), List.nil_append]
  refine ⟨e1, e2, ?_, ?_⟩
  · unfold dataP
    rw [e2, e3, List.take_append_of_le_length (by rw [lb_len]; omega), List.take_of_length_le (by rw [lb_len]; omega)]
  · unfold restP
    rw [e2, List.drop_append_of_le_length (by rw [optL_len]; omega), List.drop_of_length_le (by rw [optL_len]; omega), List.nil_append]
theorem optP_optL (x : Opt) (hx : x.2.size ≤ 65535) (r : List UInt8) : optP (optL x ++ r) = x := by
  obtain ⟨e1, _, e3, _⟩ := optL_parts x hx r
  unfold optP
  rw [e1, e3, bs_lb, UInt16.ofNat_toNat]
theorem parse_emit : ∀ (l : List Opt) (k : Nat) (r : List UInt8), okO l → k + l.length ≤ 128 → parseK k (emitL l ++ r) = addP l (parseK (k + l.length) r)
  | [], k, r, _, _ => by rw [emitL, List.nil_append, addP_nil]; rfl
  | x :: l, k, r, h, hk => by
    have hx := h x List.mem_cons_self
    obtain ⟨_, e2, _, e4⟩ := optL_parts x hx (emitL l ++ r)
    rw [List.length_cons] at hk
    rw [emitL, List.append_assoc, parse_step (by rw [List.length_append, optL_len]; omega) (by rw [e2, List.length_append, optL_len]; omega) (by omega), optP_optL x hx, e4, parse_emit l (k + 1) r h.tail (by omega), addP_add, List.length_cons, List.singleton_append, show k + 1 + l.length = k + (l.length + 1) by omega]
theorem parse_emit0 {l : List Opt} {k : Nat} (h : okO l) (hk : k + l.length ≤ 128) : parseK k (emitL l) = .ok l := by
  have := parse_emit l k [] h hk
  rw [List.append_nil] at this
  rw [this, parse_nil, addP, List.append_nil]
theorem optP_back {s : List UInt8} (h1 : ¬ s.length < 4) (h : ¬ s.length < 4 + lenP s) : optL (optP s) ++ restP s = s ∧ (optP s).2.size = lenP s ∧ lenP s ≤ 65535 := by
  have t1 : (s.take 2).length = 2 := by rw [List.length_take]; omega
  have t2 : ((s.drop 2).take 2).length = 2 := by rw [List.length_take, List.length_drop]; omega
  have b1 := beL2 t1
  have b2 := beL2 t2
  have e0 : (optP s).2.size = lenP s := by
    show (bs (dataP s)).size = lenP s
    rw [bs_len]
    unfold dataP
    rw [List.length_take, List.length_drop]
    omega
  refine ⟨?_, e0, by unfold lenP; omega⟩
  unfold optL
  rw [e0, show (optP s).1.toNat = codeP s from (UInt16.toNat_ofNat' (n := codeP s)).trans (Nat.mod_eq_of_lt (by unfold codeP; simpa using b1)), show lb (optP s).2 = dataP s from lb_bs _]
  unfold codeP lenP dataP restP
  rw [beL_beV 2 _ t1]
  unfold lenP
  rw [beL_beV 2 _ t2, List.append_assoc, List.append_assoc]
  have d1 : s.drop 4 = (s.drop 2).drop 2 := by rw [List.drop_drop]
  have d2 : s.drop (4 + beV ((s.drop 2).take 2)) = (s.drop 4).drop (beV ((s.drop 2).take 2)) := by rw [List.drop_drop]
  rw [d2, List.take_append_drop, d1, List.take_append_drop, List.take_append_drop]
theorem parse_back : ∀ (f : Nat) (k : Nat) (s : List UInt8) (l : List Opt), s.length ≤ f → parseK k s = .ok l → emitL l = s ∧ okO l ∧ (l = [] ∨ k + l.length ≤ 128)
  | 0, k, s, l, hf, h => by
    have : s = [] := List.length_eq_zero_iff.1 (by omega)
    subst this
    rw [parse_nil] at h
    cases h
    exact ⟨rfl, fun x hx => (by cases hx), Or.inl rfl⟩
  | f + 1, k, s, l, hf, h => by
    by_cases h0 : s = []
    · subst h0
      rw [parse_nil] at h
      cases h
      exact ⟨rfl, fun x hx => (by cases hx), Or.inl rfl⟩
    by_cases h1 : s.length < 4
    · rw [parse_short h0 h1] at h; cases h
    by_cases h2 : s.length < 4 + lenP s
    · rw [parse_cut h1 h2] at h; cases h
    by_cases h3 : 128 ≤ k
    · rw [parse_many h1 h2 h3] at h; cases h
    rw [parse_step h1 h2 h3] at h
    have hr := restP_len h1
    cases hp : parseK (k + 1) (restP s) with
    | error e => rw [hp] at h; cases h
    | ok m =>
      rw [hp] at h
      have hl : l = optP s :: m := by
        have : Except.ok ([optP s] ++ m) = Except.ok (ε := Int) l := h
        rw [Except.ok.injEq] at this
        rw [← this]; rfl
      subst hl
      obtain ⟨i1, i2, i3⟩ := parse_back f (k + 1) (restP s) m (by omega) hp
      obtain ⟨j1, j2, j3⟩ := optP_back h1 h2
      refine ⟨?_, ?_, Or.inr ?_⟩
      · rw [emitL, i1, j1]
      · intro x hx
        rcases List.mem_cons.1 hx with rfl | hx
        · omega
        · exact i2 x hx
      · rw [List.length_cons]
        rcases i3 with rfl | i3
        · rw [List.length_nil]; omega
        · omega
theorem parse_ok {s : List UInt8} {l : List Opt} (h : parseK 0 s = .ok l) : emitL l = s ∧ okO l ∧ l.length ≤ 128 := by
  obtain ⟨h1, h2, h3⟩ := parse_back s.length 0 s l (Nat.le_refl _) h
  refine ⟨h1, h2, ?_⟩
  rcases h3 with rfl | h3
  · exact Nat.zero_le _
  · omega
/-- too many -/
theorem parse_over {l : List Opt} {k : Nat} (h : okO l) (hk : k ≤ 128) (hl : 128 < k + l.length) : parseK k (emitL l) = .error 6 := by
  have e : l = l.take (128 - k) ++ l.drop (128 - k) := (List.take_append_drop _ _).symm
  have hd : (l.drop (128 - k)).length = l.length - (128 - k) := List.length_drop
  have ht : (l.take (128 - k)).length = 128 - k := by rw [List.length_take]; omega
  rw [e, emitL_append, parse_emit _ _ _ (fun x hx => h x (List.mem_of_mem_take hx)) (by omega), ht, show k + (128 - k) = 128 by omega]
  cases hx : l.drop (128 - k) with
  | nil => rw [hx] at hd; simp at hd; omega
  | cons x r =>
    have ox := h x (List.mem_of_mem_drop (i := 128 - k) (by rw [hx]; exact List.mem_cons_self))
    obtain ⟨_, e2, _, _⟩ := optL_parts x ox (emitL r)
    rw [emitL, parse_many (by rw [List.length_append, optL_len]; omega) (by rw [e2, List.length_append, optL_len]; omega) (Nat.le_refl _)]
    rfl
/-- the last byte is wanting -/
theorem parse_last {l : List Opt} {k : Nat} (h : okO l) (hl : l ≠ []) (hk : k + l.length ≤ 128) : parseK k (emitL l).dropLast = .error 3 := by
  obtain ⟨m, x, rfl⟩ : ∃ m x, l = m ++ [x] := ⟨l.dropLast, l.getLast hl, (List.dropLast_concat_getLast hl).symm⟩
  have ox := h x (List.mem_append_right _ List.mem_cons_self)
  have hne : optL x ≠ [] := by intro e; have := optL_len x; rw [e] at this; simp at this; omega
  rw [List.length_append] at hk
  rw [emitL_append, emitL_one, List.dropLast_append_of_ne_nil hne, parse_emit m k _ (fun y hy => h y (List.mem_append_left _ hy)) (by omega)]
  have hlen := optL_len x
  have hdl : (optL x).dropLast.length = 3 + x.2.size := by rw [List.length_dropLast, hlen]; omega
  have : parseK (k + m.length) (optL x).dropLast = .error 3 := by
    by_cases h1 : (optL x).dropLast.length < 4
    · exact parse_short (by intro e; rw [e] at hdl; simp at hdl; omega) h1
    · refine parse_cut h1 ?_
      have e2 : lenP (optL x).dropLast = x.2.size := by
        obtain ⟨_, e2, _, _⟩ := optL_parts x ox []
        rw [List.append_nil] at e2
        rw [← e2]
        unfold lenP
        congr 1
        rw [List.dropLast_eq_take, List.drop_take, List.take_take, Nat.min_eq_left (by omega)]
      rw [hdl, e2]; omega
  rw [this]; rfl
end Go.Proofs.Ytcpldojgmboipaa
