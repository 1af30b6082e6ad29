/-
  Mathematics of identity associations: what one is, as an option, read again; what is read is one; what nobody minds. No program is named here. No condition beyond those in each theorem's own statement.
-/
import Derived.Test.YtcpldojgmboipaaSxM
namespace Go.Proofs.Ytcpldojgmboipaa
open Go Go.RowKit

structure In where
  addr : Nat
  bits : Int
  pref : UInt32
  valid : UInt32
  code : Int
structure IA where
  kind : Int
  iaid : UInt32
  t1 : UInt32
  t2 : UInt32
  has : List In
  code : Int
def FitA (a : IA) : Prop := ∀ x ∈ a.has, Fits x.addr
/-! ### what one is -/
def kindO (k : Int) : Bool := decide (k = 2) || (decide (k = 3) || decide (k = 4))
def codeO (c : Int) : Bool := decide (-1 ≤ c) && decide (c ≤ 65535)
def soundI (k : Int) (x : In) : Bool := soundS x.addr x.bits && (decide (k = 4) || decide (x.bits = 128)) && codeO x.code
def zeroT (a : IA) : Bool := !(decide (a.kind = 3) && (decide (a.t1.toNat ≠ 0) || decide (a.t2.toNat ≠ 0)))
def soundA (a : IA) : Bool := kindO a.kind && (decide (a.has.length ≤ 8) && (codeO a.code && (zeroT a && a.has.all (soundI a.kind))))
theorem codeO_iff {c : Int} : codeO c = true ↔ -1 ≤ c ∧ c ≤ 65535 := by unfold codeO; simp
theorem kindO_iff {k : Int} : kindO k = true ↔ k = 2 ∨ k = 3 ∨ k = 4 := by unfold kindO; simp
theorem sound128 (a : Nat) : soundS a 128 = true := by
  rw [sound_iff]
  refine ⟨⟨by omega, by omega⟩, ?_⟩
  unfold clipS
  simp
theorem soundI_iff {k : Int} {x : In} : soundI k x = true ↔ soundS x.addr x.bits = true ∧ (k = 4 ∨ x.bits = 128) ∧ -1 ≤ x.code ∧ x.code ≤ 65535 := by
  unfold soundI
  simp [codeO_iff, and_assoc]
theorem soundA_iff {a : IA} : soundA a = true ↔ (a.kind = 2 ∨ a.kind = 3 ∨ a.kind = 4) ∧ a.has.length ≤ 8 ∧ (-1 ≤ a.code ∧ a.code ≤ 65535) ∧ (a.kind = 3 → a.t1 = 0 ∧ a.t2 = 0) ∧ ∀ x ∈ a.has, soundI a.kind x = true := by
  have z : zeroT a = true ↔ (a.kind = 3 → a.t1 = 0 ∧ a.t2 = 0) := by
    have e : ∀ t : UInt32, t.toNat = 0 ↔ t = 0 := fun t => by
      rw [← UInt32.toNat_inj]; rfl
    unfold zeroT
    by_cases h : a.kind = 3
    · by_cases h1 : a.t1 = 0 <;> by_cases h2 : a.t2 = 0 <;> simp [h, h1, h2, e]
    · simp [h]
  unfold soundA
  simp only [Bool.and_eq_true, kindO_iff, codeO_iff, z, decide_eq_true_eq, List.all_eq_true]
/-! ### as an option -/
def statO (c : Int) : List Opt := if c = -1 then [] else [(13, bs (beL 2 c.toNat))]
def codeW (k : Int) : UInt16 := if k = 4 then 26 else 5
def timesI (x : In) : List UInt8 := beL 4 x.pref.toNat ++ beL 4 x.valid.toNat
def headI (k : Int) (x : In) : List UInt8 := if k = 4 then timesI x ++ (UInt8.ofNat x.bits.toNat :: beL 16 x.addr) else beL 16 x.addr ++ timesI x
def putI (k : Int) (x : In) : Opt := (codeW k, bs (headI k x ++ emitL (statO x.code)))
def codeK (k : Int) : UInt16 := if k = 2 then 3 else if k = 3 then 4 else 25
def headA (a : IA) : List UInt8 := if a.kind = 3 then beL 4 a.iaid.toNat else beL 4 a.iaid.toNat ++ (beL 4 a.t1.toNat ++ beL 4 a.t2.toNat)
def heldA (a : IA) : List Opt := a.has.map (putI a.kind) ++ statO a.code
def putA (a : IA) : Opt := (codeK a.kind, bs (headA a ++ emitL (heldA a)))
theorem timesI_len (x : In) : (timesI x).length = 8 := by unfold timesI; rw [List.length_append, beL_length, beL_length]
def sizeI (k : Int) : Nat := if k = 4 then 25 else 24
def sizeA (k : Int) : Nat := if k = 3 then 4 else 12
theorem headI_len (k : Int) (x : In) : (headI k x).length = sizeI k := by
  unfold headI sizeI
  split
  · rw [List.length_append, timesI_len, List.length_cons, beL_length]
  · rw [List.length_append, timesI_len, beL_length]
theorem headA_len (a : IA) : (headA a).length = sizeA a.kind := by
  unfold headA sizeA
  split
  · rw [beL_length]
  · rw [List.length_append, List.length_append, beL_length, beL_length, beL_length]
theorem statO_none : statO (-1) = [] := rfl
theorem statO_some {c : Int} (h : c ≠ -1) : statO c = [(13, bs (beL 2 c.toNat))] := if_neg h
theorem emit_stat (c : Int) : (emitL (statO c)).length = if c = -1 then 0 else 6 := by
  unfold statO
  split
  · rfl
  · rw [emitL_one, optL_len, bs_len, beL_length]
theorem okO_stat (c : Int) : okO (statO c) := by
  unfold statO
  split
  · intro x hx; cases hx
  · intro x hx
    rw [List.mem_singleton] at hx
    subst hx
    show (bs (beL 2 c.toNat)).size ≤ 65535
    rw [bs_len, beL_length]; omega
theorem putI_size (k : Int) (x : In) : (putI k x).2.size = sizeI k + (emitL (statO x.code)).length := by
  unfold putI
  show (bs _).size = _
  rw [bs_len, List.length_append, headI_len]
theorem putI_le (k : Int) (x : In) : (putI k x).2.size ≤ 31 := by
  rw [putI_size, emit_stat]
  unfold sizeI
  split <;> split <;> omega
theorem okO_held (a : IA) : okO (heldA a) := by
  unfold heldA
  refine okO.append ?_ (okO_stat _)
  intro x hx
  obtain ⟨i, _, rfl⟩ := List.mem_map.1 hx
  have := putI_le a.kind i
  omega
theorem held_len {a : IA} (h : a.has.length ≤ 8) : (heldA a).length ≤ 9 := by
  unfold heldA statO
  rw [List.length_append, List.length_map]
  split <;> simp <;> omega
/-! ### reading -/
/-- the Code that options tell, where c is what was told before -/
def statF (c : Int) : List Opt → Except Int Int
  | [] => .ok c
  | x :: r => if x.1.toNat = 13 then (if x.2.size < 2 then .error 130 else statF (if c = -1 then (beV ((lb x.2).take 2) : Nat) else c) r) else statF c r
def mkI (k : Int) (s : List UInt8) (c : Int) : In :=
  if k = 4 then ⟨beV ((s.drop 9).take 16), ((s.getD 8 0).toNat : Int), UInt32.ofNat (beV (s.take 4)), UInt32.ofNat (beV ((s.drop 4).take 4)), c⟩
  else ⟨beV (s.take 16), 128, UInt32.ofNat (beV ((s.drop 16).take 4)), UInt32.ofNat (beV ((s.drop 20).take 4)), c⟩
def readI (k : Int) (s : List UInt8) : Except Int In :=
  if s.length < sizeI k then .error 3
  else if soundS (mkI k s 0).addr (mkI k s 0).bits = false then .error 130
  else match parseK 0 (s.drop (sizeI k)) with
    | .error e => .error e
    | .ok l => match statF (-1) l with
      | .error e => .error e
      | .ok c => .ok (mkI k s c)
/-- the options of an identity association, one by one: c, has: what has been read -/
def walkF (k : Int) (c : Int) (has : List In) : List Opt → Except Int (Int × List In)
  | [] => .ok (c, has)
  | x :: r =>
    if x.1.toNat = 13 then (if x.2.size < 2 then .error 130 else walkF k (if c = -1 then (beV ((lb x.2).take 2) : Nat) else c) has r)
    else if x.1.toNat = (codeW k).toNat then (if 8 ≤ has.length then .error 6 else match readI k (lb x.2) with
      | .error e => .error e
      | .ok i => walkF k c (has ++ [i]) r)
    else walkF k c has r
def kindK (c : Nat) : Int := if c = 3 then 2 else if c = 4 then 3 else if c = 25 then 4 else 0
def mkA (k : Int) (s : List UInt8) (p : Int × List In) : IA :=
  if k = 3 then ⟨k, UInt32.ofNat (beV (s.take 4)), 0, 0, p.2, p.1⟩
  else ⟨k, UInt32.ofNat (beV (s.take 4)), UInt32.ofNat (beV ((s.drop 4).take 4)), UInt32.ofNat (beV ((s.drop 8).take 4)), p.2, p.1⟩
def readA (o : Opt) : Except Int IA :=
  let k := kindK o.1.toNat
  if k = 0 then .error 130
  else if o.2.size < sizeA k then .error 3
  else match parseK 0 ((lb o.2).drop (sizeA k)) with
    | .error e => .error e
    | .ok l => match walkF k (-1) [] l with
      | .error e => .error e
      | .ok p => .ok (mkA k (lb o.2) p)
/-! ### there and back -/
theorem code13 (k : Int) : (codeW k).toNat ≠ 13 := by unfold codeW; split <;> decide
theorem u32_back (x : UInt32) : UInt32.ofNat (beV (beL 4 x.toNat)) = x := by
  have h := x.toNat_lt
  rw [beV_beL (by simpa using h), UInt32.ofNat_toNat]
theorem statF_stat (c : Int) (h : -1 ≤ c ∧ c ≤ 65535) : statF (-1) (statO c) = .ok c := by
  by_cases e : c = -1
  · subst e; rfl
  · rw [statO_some e, statF, if_pos (show ((13, bs (beL 2 c.toNat)) : Opt).1.toNat = 13 from rfl)]
    have l : (bs (beL 2 c.toNat)).size = 2 := by rw [bs_len, beL_length]
    rw [if_neg (by show ¬ (bs (beL 2 c.toNat)).size < 2; omega), statF, if_pos rfl]
    show Except.ok ((beV ((lb (bs (beL 2 c.toNat))).take 2) : Nat) : Int) = _
    rw [lb_bs, List.take_of_length_le (by rw [beL_length]; omega), beV_beL (show c.toNat < 256 ^ 2 by omega)]
    congr 1
    omega
theorem take_at {l r : List UInt8} {n : Nat} (h : l.length = n) : (l ++ r).take n = l := by rw [← h]; exact List.take_left
theorem drop_at {l r : List UInt8} {n : Nat} (h : l.length = n) : (l ++ r).drop n = r := by rw [← h]; exact List.drop_left
theorem mkI_put {k : Int} {x : In} (hf : Fits x.addr) (h : soundI k x = true) (t : List UInt8) (c : Int) : mkI k (headI k x ++ t) c = { x with code := c } := by
  obtain ⟨h1, h2, h3⟩ := soundI_iff.1 h
  have a16 : (beL 16 x.addr).length = 16 := beL_length 16 _
  have p4 : (beL 4 x.pref.toNat).length = 4 := beL_length 4 _
  have v4 : (beL 4 x.valid.toNat).length = 4 := beL_length 4 _
  have ba : beV (beL 16 x.addr) = x.addr := beV_beL hf
  unfold mkI headI timesI
  by_cases hk : k = 4
  · rw [if_pos hk, if_pos hk]
    have hb := (sound_iff.1 h1).1
    have e1 : (beL 4 x.pref.toNat ++ beL 4 x.valid.toNat ++ (UInt8.ofNat x.bits.toNat :: beL 16 x.addr) ++ t).take 4 = beL 4 x.pref.toNat := by
      rw [List.append_assoc, List.append_assoc]; exact take_at p4
    have e2 : (beL 4 x.pref.toNat ++ beL 4 x.valid.toNat ++ (UInt8.ofNat x.bits.toNat :: beL 16 x.addr) ++ t).drop 4 = beL 4 x.valid.toNat ++ (UInt8.ofNat x.bits.toNat :: beL 16 x.addr ++ t) := by
      rw [List.append_assoc, List.append_assoc]; exact drop_at p4
    have e3 : (beL 4 x.pref.toNat ++ beL 4 x.valid.toNat ++ (UInt8.ofNat x.bits.toNat :: beL 16 x.addr) ++ t).drop 8 = UInt8.ofNat x.bits.toNat :: beL 16 x.addr ++ t := by
      rw [List.append_assoc]; exact drop_at (by rw [List.length_append, p4, v4])
    have e4 : (beL 4 x.pref.toNat ++ beL 4 x.valid.toNat ++ (UInt8.ofNat x.bits.toNat :: beL 16 x.addr) ++ t).drop 9 = beL 16 x.addr ++ t := by
      rw [show (9 : Nat) = 8 + 1 from rfl, ← List.drop_drop, e3]; rfl
    have e5 : (beL 4 x.pref.toNat ++ beL 4 x.valid.toNat ++ (UInt8.ofNat x.bits.toNat :: beL 16 x.addr) ++ t).getD 8 0 = UInt8.ofNat x.bits.toNat := by
      rw [List.getD_eq_getElem?_getD, ← Nat.add_zero 8, ← List.getElem?_drop, e3]; rfl
    rw [e4, e5, e1, e2, take_at a16, take_at v4, ba, u32_back, u32_back]
    have : ((UInt8.ofNat x.bits.toNat).toNat : Int) = x.bits := by
      rw [UInt8.toNat_ofNat']; omega
    rw [this]
  · rw [if_neg hk, if_neg hk]
    have e1 : (beL 16 x.addr ++ (beL 4 x.pref.toNat ++ beL 4 x.valid.toNat) ++ t).take 16 = beL 16 x.addr := by
      rw [List.append_assoc]; exact take_at a16
    have e2 : (beL 16 x.addr ++ (beL 4 x.pref.toNat ++ beL 4 x.valid.toNat) ++ t).drop 16 = beL 4 x.pref.toNat ++ (beL 4 x.valid.toNat ++ t) := by
      rw [List.append_assoc, List.append_assoc]; exact drop_at a16
    have e3 : (beL 16 x.addr ++ (beL 4 x.pref.toNat ++ beL 4 x.valid.toNat) ++ t).drop 20 = beL 4 x.valid.toNat ++ t := by
      rw [show (20 : Nat) = 16 + 4 from rfl, ← List.drop_drop, e2]; exact drop_at p4
    rw [e1, e2, e3, take_at p4, take_at v4, ba, u32_back, u32_back]
    rcases h2 with h2 | h2
    · exact absurd h2 hk
    · rw [← h2]
theorem readI_put {k : Int} {x : In} (hf : Fits x.addr) (h : soundI k x = true) : readI k (headI k x ++ emitL (statO x.code)) = .ok x := by
  obtain ⟨h1, _, h3⟩ := soundI_iff.1 h
  unfold readI
  rw [if_neg (by rw [List.length_append, headI_len]; omega), mkI_put hf h, if_neg (by rw [h1]; decide), drop_at (headI_len k x)]
  rw [parse_emit0 (okO_stat _) (by unfold statO; split <;> simp)]
  simp only
  rw [statF_stat _ h3]
  simp only
  rw [mkI_put hf h]
theorem walk_has {k : Int} : ∀ (xs : List In) (c : Int) (has : List In) (r : List Opt), (∀ x ∈ xs, Fits x.addr ∧ soundI k x = true) → has.length + xs.length ≤ 8 → walkF k c has (xs.map (putI k) ++ r) = walkF k c (has ++ xs) r
  | [], c, has, r, _, _ => by rw [List.append_nil]; rfl
  | x :: xs, c, has, r, h, hl => by
    obtain ⟨f, s⟩ := h x List.mem_cons_self
    rw [List.length_cons] at hl
    rw [List.map_cons, List.cons_append, walkF, if_neg (show ¬ (putI k x).1.toNat = 13 from code13 k), if_pos (show (putI k x).1.toNat = (codeW k).toNat from rfl), if_neg (by omega)]
    rw [show lb (putI k x).2 = headI k x ++ emitL (statO x.code) from lb_bs _, readI_put f s]
    simp only
    rw [walk_has xs c (has ++ [x]) r (fun y hy => h y (List.mem_cons_of_mem _ hy)) (by rw [List.length_append, List.length_singleton]; omega), List.append_assoc, List.singleton_append]
theorem walk_stat {k : Int} (c : Int) (has : List In) (h : -1 ≤ c ∧ c ≤ 65535) : walkF k (-1) has (statO c) = .ok (c, has) := by
  by_cases e : c = -1
  · subst e; rfl
  · rw [statO_some e, walkF, if_pos (show ((13, bs (beL 2 c.toNat)) : Opt).1.toNat = 13 from rfl)]
    have l : (bs (beL 2 c.toNat)).size = 2 := by rw [bs_len, beL_length]
    rw [if_neg (by show ¬ (bs (beL 2 c.toNat)).size < 2; omega), walkF, if_pos rfl]
    show Except.ok (((beV ((lb (bs (beL 2 c.toNat))).take 2) : Nat) : Int), has) = _
    rw [lb_bs, List.take_of_length_le (by rw [beL_length]; omega), beV_beL (show c.toNat < 256 ^ 2 by omega)]
    congr 2
    omega
theorem kindK_codeK {k : Int} (h : k = 2 ∨ k = 3 ∨ k = 4) : kindK (codeK k).toNat = k := by
  rcases h with rfl | rfl | rfl <;> rfl
theorem mkA_put {a : IA} (h : soundA a = true) (t : List UInt8) : mkA a.kind (headA a ++ t) (a.code, a.has) = a := by
  obtain ⟨_, _, _, h4, _⟩ := soundA_iff.1 h
  obtain ⟨k, i, t1, t2, has, c⟩ := a
  have i4 : (beL 4 i.toNat).length = 4 := beL_length 4 _
  have p4 : (beL 4 t1.toNat).length = 4 := beL_length 4 _
  have v4 : (beL 4 t2.toNat).length = 4 := beL_length 4 _
  unfold mkA headA
  simp only at h4 ⊢
  by_cases hk : k = 3
  · rw [if_pos hk, if_pos hk, take_at i4, u32_back]
    obtain ⟨rfl, rfl⟩ := h4 hk
    rfl
  · rw [if_neg hk, if_neg hk]
    have e1 : (beL 4 i.toNat ++ (beL 4 t1.toNat ++ beL 4 t2.toNat) ++ t).take 4 = beL 4 i.toNat := by
      rw [List.append_assoc]; exact take_at i4
    have e2 : (beL 4 i.toNat ++ (beL 4 t1.toNat ++ beL 4 t2.toNat) ++ t).drop 4 = beL 4 t1.toNat ++ (beL 4 t2.toNat ++ t) := by
      rw [List.append_assoc, List.append_assoc]; exact drop_at i4
    have e3 : (beL 4 i.toNat ++ (beL 4 t1.toNat ++ beL 4 t2.toNat) ++ t).drop 8 = beL 4 t2.toNat ++ t := by
      rw [show (8 : Nat) = 4 + 4 from rfl, ← List.drop_drop, e2]; exact drop_at p4
    rw [e1, e2, e3, take_at p4, take_at v4, u32_back, u32_back, u32_back]
theorem sizeA_pos (k : Int) : 4 ≤ sizeA k := by unfold sizeA; split <;> omega
/-- how readA reads a head and options behind it -/
theorem readA_list {a : IA} (h : soundA a = true) {l : List Opt} {p : Int × List In} (hl : okO l) (hn : l.length ≤ 128) (hw : walkF a.kind (-1) [] l = .ok p) :
    readA (codeK a.kind, bs (headA a ++ emitL l)) = .ok (mkA a.kind (headA a ++ emitL l) p) := by
  obtain ⟨h1, _⟩ := soundA_iff.1 h
  have hk := kindK_codeK h1
  unfold readA
  simp only
  rw [hk, if_neg (by omega), if_neg (by rw [bs_len, List.length_append, headA_len]; omega), lb_bs, drop_at (headA_len a), parse_emit0 hl (by omega)]
  simp only
  rw [hw]
theorem readA_put {a : IA} (hf : FitA a) (h : soundA a = true) : readA (putA a) = .ok a := by
  obtain ⟨h1, h2, h3, _, h5⟩ := soundA_iff.1 h
  have hw : walkF a.kind (-1) [] (heldA a) = .ok (a.code, a.has) := by
    unfold heldA
    rw [walk_has a.has (-1) [] _ (fun x hx => ⟨hf x hx, h5 x hx⟩) (by simpa using h2), List.nil_append, walk_stat _ _ h3]
  unfold putA
  rw [readA_list h (okO_held a) (by have := held_len h2; omega) hw, mkA_put h]
/-! ### what is read is one -/
theorem stat_range {x : ByteArray} {c : Int} (hx : ¬ x.size < 2) (h : -1 ≤ c ∧ c ≤ 65535) : -1 ≤ (if c = -1 then ((beV ((lb x).take 2) : Nat) : Int) else c) ∧ (if c = -1 then ((beV ((lb x).take 2) : Nat) : Int) else c) ≤ 65535 := by
  have := beL2 (l := (lb x).take 2) (by rw [List.length_take, lb_len]; omega)
  split <;> omega
theorem emit_cons (x : Opt) (r : List Opt) : (emitL (x :: r)).length = 4 + x.2.size + (emitL r).length := by rw [emitL, List.length_append, optL_len]
theorem stat_mono (c v : Int) : (emitL (statO (if c = -1 then v else c))).length ≤ (emitL (statO c)).length + 6 := by
  by_cases h : c = -1
  · rw [if_pos h, emit_stat]; split <;> omega
  · rw [if_neg h]; omega
theorem statF_ok : ∀ (l : List Opt) (c d : Int), (-1 ≤ c ∧ c ≤ 65535) → statF c l = .ok d → (-1 ≤ d ∧ d ≤ 65535) ∧ (emitL (statO d)).length ≤ (emitL (statO c)).length + (emitL l).length
  | [], c, d, h, e => by rw [statF, Except.ok.injEq] at e; subst e; exact ⟨h, Nat.le_add_right _ _⟩
  | x :: r, c, d, h, e => by
    rw [emit_cons]
    rw [statF] at e
    by_cases h1 : x.1.toNat = 13
    · rw [if_pos h1] at e
      by_cases h2 : x.2.size < 2
      · rw [if_pos h2] at e; cases e
      · rw [if_neg h2] at e
        obtain ⟨i1, i2⟩ := statF_ok r _ d (stat_range h2 h) e
        refine ⟨i1, ?_⟩
        have := stat_mono c ((beV ((lb x.2).take 2) : Nat) : Int)
        omega
    · rw [if_neg h1] at e
      obtain ⟨i1, i2⟩ := statF_ok r c d h e
      exact ⟨i1, by omega⟩
theorem mkI_code (k : Int) (s : List UInt8) (c d : Int) : mkI k s c = { mkI k s d with code := c } := by unfold mkI; split <;> rfl
theorem readI_ok {k : Int} {s : List UInt8} {x : In} (h : readI k s = .ok x) : Fits x.addr ∧ soundI k x = true ∧ (putI k x).2.size ≤ s.length := by
  unfold readI at h
  by_cases h1 : s.length < sizeI k
  · rw [if_pos h1] at h; cases h
  rw [if_neg h1] at h
  by_cases h2 : soundS (mkI k s 0).addr (mkI k s 0).bits = false
  · rw [if_pos h2] at h; cases h
  rw [if_neg h2] at h
  cases hp : parseK 0 (s.drop (sizeI k)) with
  | error e => rw [hp] at h; cases h
  | ok l =>
    rw [hp] at h
    simp only at h
    cases hs : statF (-1) l with
    | error e => rw [hs] at h; cases h
    | ok c =>
      rw [hs] at h
      simp only [Except.ok.injEq] at h
      obtain ⟨i1, i2⟩ := statF_ok l (-1) c (by omega) hs
      obtain ⟨p1, _, _⟩ := parse_ok hp
      have hc : x.code = c := by rw [← h, mkI_code k s c 0]
      have ha : x.addr = (mkI k s 0).addr ∧ x.bits = (mkI k s 0).bits := by rw [← h, mkI_code k s c 0]; exact ⟨rfl, rfl⟩
      refine ⟨?_, ?_, ?_⟩
      · rw [ha.1]
        have F : ∀ l : List UInt8, l.length ≤ 16 → Fits (beV l) := fun l hl => by
          have h := beV_lt l
          have := Nat.pow_le_pow_right (show 0 < 256 by omega) hl
          exact Nat.lt_of_lt_of_le h this
        unfold mkI
        split
        · exact F _ (by rw [List.length_take]; omega)
        · exact F _ (by rw [List.length_take]; omega)
      · rw [soundI_iff]
        refine ⟨by rw [ha.1, ha.2]; simpa using h2, ?_, by rw [hc]; exact i1⟩
        by_cases hk : k = 4
        · exact Or.inl hk
        · refine Or.inr ?_
          rw [ha.2]; unfold mkI; rw [if_neg hk]
      · rw [putI_size, hc]
        rw [statO_none, p1, List.length_drop] at i2
        simp [emitL] at i2
        omega
theorem walkF_ok {k : Int} : ∀ (l : List Opt) (c : Int) (has : List In) (p : Int × List In), (-1 ≤ c ∧ c ≤ 65535) → (∀ x ∈ has, Fits x.addr ∧ soundI k x = true) → has.length ≤ 8 → walkF k c has l = .ok p →
    (-1 ≤ p.1 ∧ p.1 ≤ 65535) ∧ (∀ x ∈ p.2, Fits x.addr ∧ soundI k x = true) ∧ p.2.length ≤ 8 ∧ (emitL (p.2.map (putI k) ++ statO p.1)).length ≤ (emitL (has.map (putI k) ++ statO c)).length + (emitL l).length
  | [], c, has, p, h1, h2, h3, e => by
    rw [walkF, Except.ok.injEq] at e; subst e
    exact ⟨h1, h2, h3, Nat.le_add_right _ _⟩
  | x :: r, c, has, p, h1, h2, h3, e => by
    rw [emit_cons]
    rw [walkF] at e
    by_cases g1 : x.1.toNat = 13
    · rw [if_pos g1] at e
      by_cases g2 : x.2.size < 2
      · rw [if_pos g2] at e; cases e
      · rw [if_neg g2] at e
        obtain ⟨i1, i2, i3, i4⟩ := walkF_ok r _ has p (stat_range g2 h1) h2 h3 e
        refine ⟨i1, i2, i3, ?_⟩
        have := stat_mono c ((beV ((lb x.2).take 2) : Nat) : Int)
        rw [emitL_append, emitL_append, List.length_append, List.length_append] at i4 ⊢
        omega
    · rw [if_neg g1] at e
      by_cases g2 : x.1.toNat = (codeW k).toNat
      · rw [if_pos g2] at e
        by_cases g3 : 8 ≤ has.length
        · rw [if_pos g3] at e; cases e
        · rw [if_neg g3] at e
          cases hr : readI k (lb x.2) with
          | error e' => rw [hr] at e; cases e
          | ok i =>
            rw [hr] at e
            simp only at e
            obtain ⟨j1, j2, j3⟩ := readI_ok hr
            obtain ⟨i1, i2, i3, i4⟩ := walkF_ok r c (has ++ [i]) p h1 (fun y hy => by
              rcases List.mem_append.1 hy with hy | hy
              · exact h2 y hy
              · rw [List.mem_singleton] at hy; subst hy; exact ⟨j1, j2⟩) (by rw [List.length_append, List.length_singleton]; omega) e
            refine ⟨i1, i2, i3, ?_⟩
            rw [lb_len] at j3
            rw [List.map_append, List.map_singleton, emitL_append, emitL_append, emitL_append, emitL_one, List.length_append, List.length_append, List.length_append, optL_len] at i4
            rw [emitL_append, emitL_append, List.length_append, List.length_append]
            omega
      · rw [if_neg g2] at e
        obtain ⟨i1, i2, i3, i4⟩ := walkF_ok r c has p h1 h2 h3 e
        exact ⟨i1, i2, i3, by omega⟩
theorem kindK_sound {c : Nat} (h : ¬ kindK c = 0) : kindK c = 2 ∨ kindK c = 3 ∨ kindK c = 4 := by
  unfold kindK at h ⊢
  split
  · exact Or.inl rfl
  · split
    · exact Or.inr (Or.inl rfl)
    · split
      · exact Or.inr (Or.inr rfl)
      · rename_i h1 h2 h3; rw [if_neg h1, if_neg h2, if_neg h3] at h; exact absurd rfl h
theorem readA_ok {o : Opt} {b : IA} (h : readA o = .ok b) : FitA b ∧ soundA b = true ∧ (putA b).2.size ≤ o.2.size := by
  unfold readA at h
  simp only at h
  by_cases h0 : kindK o.1.toNat = 0
  · rw [if_pos h0] at h; cases h
  rw [if_neg h0] at h
  have hk := kindK_sound h0
  generalize kindK o.1.toNat = k at *
  by_cases h1 : o.2.size < sizeA k
  · rw [if_pos h1] at h; cases h
  rw [if_neg h1] at h
  cases hp : parseK 0 ((lb o.2).drop (sizeA k)) with
  | error e => rw [hp] at h; cases h
  | ok l =>
    rw [hp] at h
    simp only at h
    cases hs : walkF k (-1) [] l with
    | error e => rw [hs] at h; cases h
    | ok p =>
      rw [hs] at h
      simp only [Except.ok.injEq] at h
      obtain ⟨i1, i2, i3, i4⟩ := walkF_ok l (-1) [] p (by omega) (fun x hx => (by cases hx)) (Nat.zero_le _) hs
      obtain ⟨p1, _, _⟩ := parse_ok hp
      have hb : b.kind = k ∧ b.has = p.2 ∧ b.code = p.1 ∧ (k = 3 → b.t1 = 0 ∧ b.t2 = 0) := by
        rw [← h]; unfold mkA
        by_cases e : k = 3
        · rw [if_pos e]; exact ⟨rfl, rfl, rfl, fun _ => ⟨rfl, rfl⟩⟩
        · rw [if_neg e]; exact ⟨rfl, rfl, rfl, fun e2 => absurd e2 e⟩
      obtain ⟨b1, b2, b3, b4⟩ := hb
      refine ⟨fun x hx => (i2 x (by rw [← b2]; exact hx)).1, ?_, ?_⟩
      · rw [soundA_iff, b1, b2, b3]
        exact ⟨hk, i3, i1, b4, fun x hx => (i2 x hx).2⟩
      · unfold putA heldA
        show (bs _).size ≤ _
        rw [bs_len, List.length_append, headA_len, b1, b2, b3]
        rw [p1, List.length_drop, lb_len] at i4
        simp [statO_none, emitL] at i4
        omega
/-! ### what nobody minds -/
theorem walk_append {k : Int} : ∀ (l m : List Opt) (c : Int) (has : List In) (p : Int × List In), walkF k c has l = .ok p → walkF k c has (l ++ m) = walkF k p.1 p.2 m
  | [], m, c, has, p, e => by rw [walkF, Except.ok.injEq] at e; subst e; rfl
  | x :: r, m, c, has, p, e => by
    rw [List.cons_append, walkF]
    rw [walkF] at e
    by_cases g1 : x.1.toNat = 13
    · rw [if_pos g1] at e ⊢
      by_cases g2 : x.2.size < 2
      · rw [if_pos g2] at e; cases e
      · rw [if_neg g2] at e ⊢
        exact walk_append r m _ has p e
    · rw [if_neg g1] at e ⊢
      by_cases g2 : x.1.toNat = (codeW k).toNat
      · rw [if_pos g2] at e ⊢
        by_cases g3 : 8 ≤ has.length
        · rw [if_pos g3] at e; cases e
        · rw [if_neg g3] at e ⊢
          cases hr : readI k (lb x.2) with
          | error e' => rw [hr] at e; cases e
          | ok i =>
            rw [hr] at e
            simp only at e ⊢
            exact walk_append r m c _ p e
      · rw [if_neg g2] at e ⊢
        exact walk_append r m c has p e
theorem walk_part {k : Int} : ∀ (l m : List Opt) (c : Int) (has : List In) (p : Int × List In), walkF k c has (l ++ m) = .ok p → ∃ q, walkF k c has l = .ok q ∧ walkF k q.1 q.2 m = .ok p
  | [], m, c, has, p, e => ⟨(c, has), rfl, e⟩
  | x :: r, m, c, has, p, e => by
    rw [List.cons_append, walkF] at e
    rw [walkF]
    by_cases g1 : x.1.toNat = 13
    · rw [if_pos g1] at e ⊢
      by_cases g2 : x.2.size < 2
      · rw [if_pos g2] at e; cases e
      · rw [if_neg g2] at e ⊢
        exact walk_part r m _ has p e
    · rw [if_neg g1] at e ⊢
      by_cases g2 : x.1.toNat = (codeW k).toNat
      · rw [if_pos g2] at e ⊢
        by_cases g3 : 8 ≤ has.length
        · rw [if_pos g3] at e; cases e
        · rw [if_neg g3] at e ⊢
          cases hr : readI k (lb x.2) with
          | error e' => rw [hr] at e; cases e
          | ok i =>
            rw [hr] at e
            simp only at e ⊢
            exact walk_part r m c _ p e
      · rw [if_neg g2] at e ⊢
        exact walk_part r m c has p e
/-- an option of another code, and a further status, change nothing -/
theorem walk_ignores {a : IA} (hf : FitA a) (h : soundA a = true) {o : Opt} (h5 : o.1.toNat ≠ 5) (h26 : o.1.toNat ≠ 26) (h13 : o.1.toNat ≠ 13) (k : Nat) (x : Opt) (hx : x.1.toNat = 13) (hs : 2 ≤ x.2.size) :
    walkF a.kind (-1) [] ((heldA a).take k ++ (o :: ((heldA a).drop k ++ if 0 ≤ a.code then [x] else []))) = .ok (a.code, a.has) := by
  obtain ⟨_, h2, h3, _, hh⟩ := soundA_iff.1 h
  have hw : walkF a.kind (-1) [] (heldA a) = .ok (a.code, a.has) := by
    unfold heldA
    rw [walk_has a.has (-1) [] _ (fun x hx => ⟨hf x hx, hh x hx⟩) (by simpa using h2), List.nil_append, walk_stat _ _ h3]
  rw [← List.take_append_drop k (heldA a)] at hw
  obtain ⟨q, q1, q2⟩ := walk_part _ _ _ _ _ hw
  have hc : (codeW a.kind).toNat = 5 ∨ (codeW a.kind).toNat = 26 := by
    unfold codeW
    split
    · exact Or.inr rfl
    · exact Or.inl rfl
  rw [walk_append _ _ _ _ _ q1, walkF, if_neg h13, if_neg (by omega), walk_append _ _ _ _ _ q2]
  split
  · rw [walkF, if_pos hx, if_neg (by omega), walkF, if_neg (by simp only; omega)]
  · rfl
end Go.Proofs.Ytcpldojgmboipaa
