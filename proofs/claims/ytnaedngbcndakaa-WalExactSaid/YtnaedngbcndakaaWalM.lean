/-
  Frames and logs as mathematics: the frame of a record, the whole frames of bytes, what a beginning of frames holds. No program is named here. No condition beyond those in each theorem's own statement.
-/
import Derived.Test.YtnaedngbcndakaaOctM
import Derived.Test.YtnaedngbcndakaaDigM
namespace Go.Proofs.Ytnaedngbcndakaa
open Go

/-- a record -/
def recOk (p : List UInt8) : Prop := 1 ≤ p.length ∧ p.length ≤ 65536
instance (p : List UInt8) : Decidable (recOk p) := by unfold recOk; infer_instance
def frameL (p : List UInt8) : List UInt8 := beL 4 p.length ++ (beL 4 (crcL p) ++ p)
def lenL (d : List UInt8) : Nat := beV (d.take 4)
def sumL (d : List UInt8) : Nat := beV ((d.drop 4).take 4)
def recL (d : List UInt8) : List UInt8 := (d.drop 8).take (lenL d)
/-- a right frame stands at the beginning -/
def headOk (d : List UInt8) : Prop := 8 ≤ d.length ∧ 1 ≤ lenL d ∧ lenL d ≤ 65536 ∧ 8 + lenL d ≤ d.length ∧ crcL (recL d) = sumL d
instance (d : List UInt8) : Decidable (headOk d) := by unfold headOk; infer_instance
def takeL (d : List UInt8) : Option (List UInt8) := if headOk d then some (recL d) else none
def scanN : Nat → List UInt8 → List (List UInt8)
  | 0, _ => []
  | n + 1, d => match takeL d with
    | none => []
    | some p => p :: scanN n (d.drop (8 + p.length))
def scanL (d : List UInt8) : List (List UInt8) := scanN d.length d
def framesL (l : List (List UInt8)) : List UInt8 := (l.map frameL).flatten
/-- how many bytes the frames have -/
def sizeL (l : List (List UInt8)) : Nat := (framesL l).length

theorem frame_length (p : List UInt8) : (frameL p).length = 8 + p.length := by
  unfold frameL
  rw [List.length_append, List.length_append, beL_length, beL_length]
  omega
theorem frames_nil : framesL [] = [] := rfl
theorem frames_cons (p : List UInt8) (l : List (List UInt8)) : framesL (p :: l) = frameL p ++ framesL l := rfl
theorem frames_append (a b : List (List UInt8)) : framesL (a ++ b) = framesL a ++ framesL b := by
  unfold framesL
  rw [List.map_append, List.flatten_append]
theorem frames_snoc (a : List (List UInt8)) (p : List UInt8) : framesL (a ++ [p]) = framesL a ++ frameL p := by
  rw [frames_append, frames_cons, frames_nil, List.append_nil]
theorem size_nil : sizeL [] = 0 := rfl
theorem size_cons (p : List UInt8) (l : List (List UInt8)) : sizeL (p :: l) = 8 + p.length + sizeL l := by
  unfold sizeL
  rw [frames_cons, List.length_append, frame_length]
theorem size_append (a b : List (List UInt8)) : sizeL (a ++ b) = sizeL a + sizeL b := by
  unfold sizeL
  rw [frames_append, List.length_append]
theorem size_snoc (a : List (List UInt8)) (p : List UInt8) : sizeL (a ++ [p]) = sizeL a + (8 + p.length) := by
  rw [size_append, size_cons, size_nil]; omega

/-! ### one frame at the beginning -/
theorem four_len (x : Nat) (r : List UInt8) : (beL 4 x ++ r).take 4 = beL 4 x := List.take_left' (beL_length 4 x)
theorem four_drop (x : Nat) (r : List UInt8) : (beL 4 x ++ r).drop 4 = r := List.drop_left' (beL_length 4 x)
theorem head_parts (p r : List UInt8) (h : p.length ≤ 65536) : lenL (frameL p ++ r) = p.length ∧ sumL (frameL p ++ r) = crcL p ∧ recL (frameL p ++ r) = p := by
  have e : frameL p ++ r = beL 4 p.length ++ (beL 4 (crcL p) ++ (p ++ r)) := by unfold frameL; simp only [List.append_assoc]
  have h1 : lenL (frameL p ++ r) = p.length := by
    unfold lenL
    rw [e, four_len, beV_beL (by omega)]
  refine ⟨h1, ?_, ?_⟩
  · unfold sumL
    rw [e, four_drop, four_len, beV_beL (crcL_lt p)]
  · unfold recL
    rw [h1, e, show (8 : Nat) = 4 + 4 from rfl, ← List.drop_drop, four_drop, four_drop, List.take_left' rfl]
theorem take_frame {p : List UInt8} (h : recOk p) (r : List UInt8) : takeL (frameL p ++ r) = some p := by
  obtain ⟨h1, h2, h3⟩ := head_parts p r h.2
  have hk : headOk (frameL p ++ r) := ⟨by rw [List.length_append, frame_length]; omega, by rw [h1]; exact h.1, by rw [h1]; exact h.2, by rw [h1, List.length_append, frame_length]; omega, by rw [h2, h3]⟩
  unfold takeL
  rw [if_pos hk, h3]
theorem beV_inj4 : ∀ (l : List UInt8), l.length = 4 → beL 4 (beV l) = l
  | [a, b, c, d], _ => by
    have e : beV [a, b, c, d] = ((a.toNat * 256 + b.toNat) * 256 + c.toNat) * 256 + d.toNat := by simp [beV, beF]
    have ha := a.toNat_lt
    have hb := b.toNat_lt
    have hc := c.toNat_lt
    have hd := d.toNat_lt
    have q : ∀ (x : UInt8) (n : Nat), n % 256 = x.toNat → UInt8.ofNat (n % 256) = x := fun x n hn => by rw [hn]; simp
    rw [e]
    simp only [beL]
    rw [q a _ (by omega), q b _ (by omega), q c _ (by omega), q d _ (by omega)]
theorem take_some {d p : List UInt8} (h : takeL d = some p) : recOk p ∧ 8 + p.length ≤ d.length ∧ d = frameL p ++ d.drop (8 + p.length) := by
  unfold takeL at h
  split at h
  · rename_i hk
    cases h
    obtain ⟨k1, k2, k3, k4, k5⟩ := hk
    have hl : (recL d).length = lenL d := by unfold recL; rw [List.length_take, List.length_drop]; omega
    refine ⟨⟨by omega, by omega⟩, by omega, ?_⟩
    unfold frameL
    rw [k5, hl]
    have a1 : beL 4 (lenL d) = d.take 4 := beV_inj4 _ (by rw [List.length_take]; omega)
    have a2 : beL 4 (sumL d) = (d.drop 4).take 4 := beV_inj4 _ (by rw [List.length_take, List.length_drop]; omega)
    rw [a1, a2]
    show d = d.take 4 ++ ((d.drop 4).take 4 ++ (d.drop 8).take (lenL d)) ++ d.drop (8 + lenL d)
    have b1 : d.drop (8 + lenL d) = (d.drop 8).drop (lenL d) := by rw [List.drop_drop]
    have b2 : d.drop 8 = (d.drop 4).drop 4 := by rw [List.drop_drop]
    rw [b1, List.append_assoc, List.append_assoc, List.take_append_drop, b2, List.take_append_drop, List.take_append_drop]
  · cases h
theorem take_short {d : List UInt8} (h : d.length < 9) : takeL d = none := by
  unfold takeL
  rw [if_neg]
  rintro ⟨_, _, _, _, _⟩
  omega

/-! ### the whole frames -/
theorem scanN_spec : ∀ (n : Nat) (d : List UInt8), d.length ≤ n → (∃ r, d = framesL (scanN n d) ++ r ∧ takeL r = none) ∧ ∀ p ∈ scanN n d, recOk p
  | 0, d, h => by
    obtain rfl : d = [] := List.eq_nil_of_length_eq_zero (by omega)
    exact ⟨⟨[], rfl, take_short (by simp)⟩, fun p hp => by simp [scanN] at hp⟩
  | n + 1, d, h => by
    unfold scanN
    cases hk : takeL d with
    | none => exact ⟨⟨d, rfl, hk⟩, fun p hp => by simp at hp⟩
    | some p =>
      obtain ⟨h1, h2, h3⟩ := take_some hk
      obtain ⟨⟨r, e, hr⟩, hall⟩ := scanN_spec n (d.drop (8 + p.length)) (by rw [List.length_drop]; have := h1.1; omega)
      refine ⟨⟨r, ?_, hr⟩, fun q hq => ?_⟩
      · show d = framesL (p :: scanN n (d.drop (8 + p.length))) ++ r
        rw [frames_cons, List.append_assoc, ← e]
        exact h3
      · rcases List.mem_cons.1 hq with rfl | hq
        · exact h1
        · exact hall q hq
theorem scan_spec (d : List UInt8) : ∃ r, d = framesL (scanL d) ++ r ∧ takeL r = none := (scanN_spec d.length d (Nat.le_refl _)).1
theorem scan_ok (d : List UInt8) : ∀ p ∈ scanL d, recOk p := (scanN_spec d.length d (Nat.le_refl _)).2
theorem frames_uniq : ∀ {a b : List (List UInt8)} {r s : List UInt8}, (∀ p ∈ a, recOk p) → (∀ p ∈ b, recOk p) → takeL r = none → takeL s = none → framesL a ++ r = framesL b ++ s → a = b
  | [], [], _, _, _, _, _, _, _ => rfl
  | [], p :: b, r, s, _, hb, hr, _, e => by
    rw [frames_nil, List.nil_append, frames_cons, List.append_assoc] at e
    rw [e, take_frame (hb p List.mem_cons_self)] at hr
    cases hr
  | p :: a, [], r, s, ha, _, _, hs, e => by
    rw [frames_nil, List.nil_append, frames_cons, List.append_assoc] at e
    rw [← e, take_frame (ha p List.mem_cons_self)] at hs
    cases hs
  | p :: a, q :: b, r, s, ha, hb, hr, hs, e => by
    rw [frames_cons, frames_cons, List.append_assoc, List.append_assoc] at e
    have h1 := take_frame (ha p List.mem_cons_self) (framesL a ++ r)
    rw [e, take_frame (hb q List.mem_cons_self)] at h1
    obtain rfl : q = p := by simpa using h1
    rw [frames_uniq (fun x hx => ha x (List.mem_cons_of_mem _ hx)) (fun x hx => hb x (List.mem_cons_of_mem _ hx)) hr hs (List.append_cancel_left e)]
theorem scan_of {d r : List UInt8} {l : List (List UInt8)} (hl : ∀ p ∈ l, recOk p) (hr : takeL r = none) (e : d = framesL l ++ r) : scanL d = l := by
  obtain ⟨s, e2, hs⟩ := scan_spec d
  exact frames_uniq (scan_ok d) hl hs hr (e2.symm.trans e)
theorem scan_frames {l : List (List UInt8)} (hl : ∀ p ∈ l, recOk p) : scanL (framesL l) = l := scan_of (r := []) hl (take_short (by simp)) (by simp)
theorem scan_size (d : List UInt8) : sizeL (scanL d) ≤ d.length := by
  obtain ⟨r, e, _⟩ := scan_spec d
  have := congrArg List.length e
  rw [List.length_append] at this
  unfold sizeL
  omega
theorem scan_take (d : List UInt8) : d.take (sizeL (scanL d)) = framesL (scanL d) := by
  obtain ⟨r, e, _⟩ := scan_spec d
  have h : ∀ x : List (List UInt8), d = framesL x ++ r → d.take (sizeL x) = framesL x := fun x hx => by
    rw [hx]; exact List.take_left' rfl
  exact h _ e
/-- what the scan comes to, one frame at a time -/
theorem scan_at {d : List UInt8} {a b : List (List UInt8)} (h : scanL d = a ++ b) : takeL (d.drop (sizeL a)) = b.head? := by
  obtain ⟨r, e, hr⟩ := scan_spec d
  have hb : ∀ p ∈ b, recOk p := fun p hp => scan_ok d p (by rw [h]; exact List.mem_append_right _ hp)
  rw [h, frames_append, List.append_assoc] at e
  have e2 : d.drop (sizeL a) = framesL b ++ r := by rw [e]; exact List.drop_left' rfl
  rw [e2]
  cases b with
  | nil => exact hr
  | cons p b => rw [frames_cons, List.append_assoc, take_frame (hb p List.mem_cons_self)]; rfl
theorem size_le_len {d : List UInt8} {a b : List (List UInt8)} (h : scanL d = a ++ b) : sizeL a + sizeL b ≤ d.length := by
  have := scan_size d
  rw [h, size_append] at this
  exact this

/-! ### a beginning of frames -/
theorem torn_none {p : List UInt8} (h : recOk p) {k : Nat} (hk : k < 8 + p.length) : takeL ((frameL p).take k) = none := by
  by_cases h9 : k < 9
  · exact take_short (by rw [List.length_take]; omega)
  · unfold takeL
    rw [if_neg]
    rintro ⟨_, _, _, k4, _⟩
    have e : lenL ((frameL p).take k) = p.length := by
      have h1 : ((frameL p).take k).take 4 = beL 4 p.length := by
        rw [List.take_take, Nat.min_eq_left (by omega)]
        unfold frameL
        exact four_len _ _
      unfold lenL
      rw [h1, beV_beL (by have := h.2; omega)]
    rw [e, List.length_take, frame_length] at k4
    omega
/-- a beginning of frames has a beginning of the records, whole -/
theorem prefix_scan : ∀ {l : List (List UInt8)}, (∀ p ∈ l, recOk p) → ∀ c, ∃ m, m ≤ l.length ∧ scanL ((framesL l).take c) = l.take m ∧ ∀ j, j ≤ l.length → sizeL (l.take j) ≤ c → j ≤ m
  | [], _, c => ⟨0, Nat.le_refl _, by simp [frames_nil]; rfl, fun j hj _ => hj⟩
  | p :: l, h, c => by
    have hp := h p List.mem_cons_self
    by_cases hc : c < 8 + p.length
    · refine ⟨0, Nat.zero_le _, ?_, fun j hj hs => ?_⟩
      · rw [frames_cons, List.take_append_of_le_length (by rw [frame_length]; omega)]
        exact scan_of (l := []) (r := (frameL p).take c) (fun q hq => by simp at hq) (torn_none hp hc) rfl
      · cases j with
        | zero => exact Nat.le_refl _
        | succ j => rw [List.take_succ_cons, size_cons] at hs; omega
    · obtain ⟨m, h1, h2, h3⟩ := prefix_scan (l := l) (fun q hq => h q (List.mem_cons_of_mem _ hq)) (c - (8 + p.length))
      refine ⟨m + 1, by simp; omega, ?_, fun j hj hs => ?_⟩
      · obtain ⟨r, e, hr⟩ := scan_spec ((framesL l).take (c - (8 + p.length)))
        rw [h2] at e
        refine scan_of (r := r) (fun q hq => h q (List.take_subset _ _ hq)) hr ?_
        rw [frames_cons, List.take_append, frame_length, List.take_of_length_le (by rw [frame_length]; omega), e, List.take_succ_cons, frames_cons, List.append_assoc]
      · cases j with
        | zero => exact Nat.zero_le _
        | succ j =>
          rw [List.take_succ_cons, size_cons] at hs
          have := h3 j (by simp at hj; omega) (by omega)
          omega

/-! ### records with the places behind their frames -/
def pairsL : Nat → List (List UInt8) → List (List UInt8 × Nat)
  | _, [] => []
  | a, p :: l => (p, a + 8 + p.length) :: pairsL (a + 8 + p.length) l
theorem pairs_snoc : ∀ (l : List (List UInt8)) (a : Nat) (p : List UInt8), pairsL a (l ++ [p]) = pairsL a l ++ [(p, a + sizeL l + 8 + p.length)]
  | [], a, p => by simp [pairsL, size_nil]
  | q :: l, a, p => by
    show (q, a + 8 + q.length) :: pairsL (a + 8 + q.length) (l ++ [p]) = _
    rw [pairs_snoc l, size_cons]
    show _ = (q, a + 8 + q.length) :: (pairsL (a + 8 + q.length) l ++ _)
    rw [show a + 8 + q.length + sizeL l = a + (8 + q.length + sizeL l) by omega]
theorem pairs_length : ∀ (l : List (List UInt8)) (a : Nat), (pairsL a l).length = l.length
  | [], _ => rfl
  | _ :: l, a => by show (pairsL _ l).length + 1 = _; rw [pairs_length l]; rfl
theorem pairs_fst : ∀ (l : List (List UInt8)) (a : Nat), (pairsL a l).map (·.1) = l
  | [], _ => rfl
  | p :: l, a => by show p :: (pairsL _ l).map (·.1) = _; rw [pairs_fst l]
/-- the last place, 0 where there is none -/
def endL (l : List (List UInt8 × Nat)) : Nat := l.foldl (fun _ x => x.2) 0
theorem end_snoc (l : List (List UInt8 × Nat)) (x : List UInt8 × Nat) : endL (l ++ [x]) = x.2 := by simp [endL]
theorem end_pairs (l : List (List UInt8)) : endL (pairsL 0 l) = sizeL l := by
  rcases List.eq_nil_or_concat l with rfl | ⟨a, p, rfl⟩
  · rfl
  · rw [List.concat_eq_append, pairs_snoc, end_snoc, size_snoc]; show 0 + sizeL a + 8 + p.length = _; omega
end Go.Proofs.Ytnaedngbcndakaa
