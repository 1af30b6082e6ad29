/-
  Rows of strings; data that are cut into pieces and put together: for the law Opt4Pieces. Condition: a row of strings takes at most 2^47 bytes.
-/
import Derived.Test.YtmidnkfgbdiamaaOpBk
import Derived.Test.YtmidnkfgbdiamaaOpRow
namespace Go.Proofs.Ytmidnkfgbdiamaa
open Go.RowKit Go.Joins Go.Maps

/-! ### rows of strings of a call's own -/
theorem infoS : (Try.prog.info? 9).map (fun i => (i.zero, i.size, i.bytes)) = some (some (.string ⟨#[]⟩), 1, 16) := by kernel_rfl
abbrev OwnS (w : World) (base : Nat) (v : Value) (l : List ByteArray) : Prop := w.ownsRow base 9 1 v l.length (l.map Value.string)
theorem ownS_nil (w : World) (base : Nat) : OwnS w base (.slice none 0 0) [] := World.ownsRow_nil w base _ _
theorem ownS_lst {W : World} {base : Nat} {v : Value} {l : List ByteArray} (h : OwnS W base v l) : LstS v l W := by
  rcases h.2 with ⟨rfl, hn⟩ | ⟨g, cap, cur, rfl, hb, hg, _⟩
  · exact Or.inl ⟨none, 0, rfl, List.length_eq_zero_iff.1 hn⟩
  · refine Or.inr ⟨g, 0, cap, rfl, lt_of_block hg, fun j s hj => ?_⟩
    rw [Nat.zero_add]
    have hj2 := (List.getElem?_eq_some_iff.1 hj).1
    rw [h.cellAt j (by omega), List.getElem?_map, hj]
    rfl
theorem own_types {W : World} {b1 b2 n1 n2 s1 s2 : Nat} {e1 e2 : TypeId} {v1 v2 : Value} {x1 x2 : List Value} (h1 : W.ownsRow b1 e1 s1 v1 n1 x1) (h2 : W.ownsRow b2 e2 s2 v2 n2 x2) (hne : e1 ≠ e2) : v1.ownBlock = none ∨ v1.ownBlock ≠ v2.ownBlock := by
  rcases h1.2 with ⟨rfl, _⟩ | ⟨g, cap, cur, rfl, _, hg, _⟩
  · exact Or.inl rfl
  · refine Or.inr (fun e => ?_)
    rcases h2.2 with ⟨rfl, _⟩ | ⟨g2, cap2, cur2, rfl, _, hg2, _⟩
    · cases e
    · cases e
      rw [hg] at hg2
      injection hg2 with hg2
      injection hg2 with _ hg2 _
      exact hne hg2
theorem wpList_append_str {w : World} {ops : Array Oper} {rest : List Oper} {o : Oper} {a : Act} {Q : Exit → Act → World → Prop} (hgd : o.guard = none) (s x : Operand)
    (ho : o.op = .call { callee := .builtin .append, args := #[s, x], argTypes := #[22, 22] })
    (base : Nat) (v : Value) (l : List ByteArray) (hs : a.eval s = v) (hown : OwnS w base v l) (b c : Nat) (y : ByteArray) (hx : a.eval x = .slice (some ⟨b, 0, none⟩) 1 c)
    (hl : ∀ j u, [Value.string y][j]? = some u → w.cell? ((⟨b, 0, none⟩ : Go.Addr).add j) = some u) (hn : (l.length + 1) * 16 ≤ 140737488355328) (hbase : base ≤ w.heap.size)
    (h : ∀ v2 w2, OwnS w2 base v2 (l ++ [y]) → w.grownBy w2 v.ownBlock → wpList Try.prog ops Q rest (a.put o.dst v2) w2) : wpList Try.prog ops Q (o :: rest) a w := by
  obtain ⟨i0, hi, hz0, hz1, hz2⟩ := info_parts infoS
  refine wpList_append_lies w hgd s x 22 ho base 9 i0 (.string ⟨#[]⟩) 1 16 Try.underlying22 hi hz0 hz1 hz2 rfl (by decide) v l.length (l.map Value.string) hs hown ⟨b, 0, none⟩ 1 c [Value.string y] hx rfl hl (fun u hu => by simp at hu; subst hu; rfl) (by omega) (by unfold maxLen; omega) (by omega) hbase _ rfl ?_
  intro g cap w2 h1 h2 _ _
  refine h _ w2 ?_ h2
  unfold OwnS
  rw [List.length_append, List.map_append]
  exact h1
theorem conv_at {w : World} {g : Nat} (l : List UInt8) (cap : Nat) (h : ∀ (j : Nat) (b : UInt8), l[j]? = some b → w.cell? ⟨g, j, none⟩ = some (.int .u8 (b.toNat : Int))) :
    (convert 39 9 (.slice (some ⟨g, 0, none⟩) l.length cap)).run Try.prog w = .ok (St l) w := by
  refine run_convert_bytes_back (P := Try.prog) w 39 9 5 ⟨g, 0, none⟩ cap l Try.underlying39 Try.underlying5 Try.underlying9 (fun j hj => ?_)
  have := h j _ (List.getElem?_eq_getElem hj)
  have ha : (⟨g, 0, none⟩ : Go.Addr).add j = ⟨g, j, none⟩ := by cases j <;> simp [Addr.add]
  rw [ha, this]
theorem lstI_at {v : Value} {l : List Int} {W : World} (h : LstI v l W) {k : Nat} {x : Int} (hx : l[k]? = some x) : ∃ b o c, v = .slice (some ⟨b, o, none⟩) l.length c ∧ b < W.heap.size ∧ W.cell? ⟨b, o + k, none⟩ = some (.int .i64 x) := by
  rcases h with ⟨_, _, _, rfl⟩ | ⟨b, o, c, hv, hb, hr⟩
  · simp at hx
  · exact ⟨b, o, c, hv, hb, hr k x hx⟩
theorem lstI_len {v : Value} {l : List Int} {W : World} (h : LstI v l W) : ∃ p c, v = .slice p l.length c := by
  rcases h with ⟨p, c, h, rfl⟩ | ⟨b, o, c, h, _⟩
  · exact ⟨p, c, h⟩
  · exact ⟨_, _, h⟩
theorem LstI.step {v : Value} {l : List Int} {W w2 : World} (h : LstI v l W) (hb : Below W.heap.size W w2) : LstI v l w2 := by
  rcases h with h | ⟨b, o, c, h1, h2, h3⟩
  · exact Or.inl h
  · exact Or.inr ⟨b, o, c, h1, Nat.lt_of_lt_of_le h2 hb.size, fun j x hj => keep_cell hb (h3 j x hj)⟩

/-! ### data that are cut -/
def gsAt (code : UInt8) (data : List UInt8) (i at_ : Nat) : Gs := if i = 0 then [] else [(code, data.take at_)]
theorem add_at_ {code : UInt8} {data : List UInt8} (h : data.length ≤ 4096) (i at_ n : Nat) (h0 : i = 0 → at_ = 0) : addG (gsAt code data i at_) code ((data.drop at_).take n) = some (gsAt code data (i + 1) (at_ + n)) := by
  have e : (data.take at_) ++ ((data.drop at_).take n) = data.take (at_ + n) := by rw [List.take_add]
  have l1 : (data.take (at_ + n)).length ≤ 4096 := by rw [List.length_take]; omega
  unfold gsAt
  rw [if_neg (Nat.succ_ne_zero i)]
  by_cases hi : i = 0
  · have ha := h0 hi
    subst ha
    rw [if_pos hi]
    unfold addG gold gdat
    rw [if_neg]
    · rw [← e]; simp [gput]
    · rw [← e] at l1
      simp only [List.length_append] at l1
      simp; omega
  · rw [if_neg hi]
    unfold addG gold gdat
    rw [if_pos rfl, if_neg]
    · rw [← e]; simp [gput]
    · rw [← e] at l1
      simp only [List.length_append] at l1
      simp only [Option.getD_some, reduceCtorEq, false_and, or_false]
      omega
theorem read_piece {code : UInt8} {data : List UInt8} (h : data.length ≤ 4096) (h1 : code ≠ 255) (h2 : code ≠ 0) (i at_ n : Nat) (hn : n ≤ 255) (hr : at_ + n ≤ data.length) (h0 : i = 0 → at_ = 0) (t : List UInt8) :
    readA (code :: UInt8.ofNat n :: ((data.drop at_).take n ++ t)) (gsAt code data i at_) = readA t (gsAt code data (i + 1) (at_ + n)) := by
  have hk : (UInt8.ofNat n).toNat = n := by rw [UInt8.toNat_ofNat']; omega
  have hl : ((data.drop at_).take n).length = n := by rw [List.length_take, List.length_drop]; omega
  rw [readA_add h1 h2 (by rw [hk, List.length_append]; omega) (by rw [hk, List.take_left' hl]; exact add_at_ h i at_ n h0), hk, List.drop_left' hl]
theorem parse_snoc : ∀ (ar : List (List UInt8)) (a : List UInt8) (S S2 : Gs), parseL ar S = (0, S2) → parseL (ar ++ [a]) S = parseL [a] S2
  | [], a, S, S2, h => by
    have : S = S2 := congrArg Prod.snd h
    rw [this]; rfl
  | b :: r, a, S, S2, h => by
    unfold parseL at h
    by_cases e : (readA b S).1 = 0
    · rw [if_pos e] at h
      show (if (readA b S).1 = 0 then parseL (r ++ [a]) (readA b S).2 else readA b S) = _
      rw [if_pos e]
      exact parse_snoc r a _ _ h
    · rw [if_neg e] at h
      exact absurd (congrArg Prod.fst h) e
/-- what the law has built: one area, and many -/
def PInv (code : UInt8) (data : List UInt8) (i at_ : Nat) (one : List UInt8) (ar : List ByteArray) : Prop :=
  (∀ t, readA (one ++ t) [] = readA t (gsAt code data i at_)) ∧ parseL (ar.map lb) [] = (0, gsAt code data i at_) ∧ (i = 0 → at_ = 0) ∧ one.length ≤ at_ + 2 * i ∧ ar.length = i ∧ (∀ s ∈ ar, s.size ≤ 257)
theorem pinv_nil (code : UInt8) (data : List UInt8) : PInv code data 0 0 [] [] := ⟨fun t => rfl, rfl, fun _ => rfl, by simp, rfl, fun s h => by cases h⟩
theorem pinv_step {code : UInt8} {data : List UInt8} {i at_ n : Nat} {one : List UInt8} {ar : List ByteArray} (h : PInv code data i at_ one ar) (hd : data.length ≤ 4096) (h1 : code ≠ 255) (h2 : code ≠ 0) (hn : n ≤ 255) (hr : at_ + n ≤ data.length) (y : ByteArray) (hy : lb y = code :: UInt8.ofNat n :: (data.drop at_).take n) :
    PInv code data (i + 1) (at_ + n) (one ++ lb y) (ar ++ [y]) := by
  obtain ⟨k1, k2, k3, k4, k5, k6⟩ := h
  have hl : (lb y).length = n + 2 := by rw [hy]; simp only [List.length_cons, List.length_take, List.length_drop]; omega
  refine ⟨fun t => ?_, ?_, fun e => absurd e (Nat.succ_ne_zero i), ?_, by rw [List.length_append, k5]; rfl, fun s hs => ?_⟩
  · rw [List.append_assoc, k1, hy]
    exact read_piece hd h1 h2 i at_ n hn hr k3 t
  · rw [List.map_append]
    rw [show [y].map lb = [lb y] from rfl, parse_snoc _ _ _ _ k2, hy]
    have := read_piece hd h1 h2 i at_ n hn hr k3 []
    rw [List.append_nil, readA_nil] at this
    unfold parseL
    rw [this, if_pos rfl]; rfl
  · rw [List.length_append, hl]; omega
  · rcases List.mem_append.1 hs with hs | hs
    · exact k6 s hs
    · have : s = y := by simpa using hs
      rw [this, ← lb_len, hl]; omega
theorem pinv_end {code : UInt8} {data : List UInt8} {i at_ : Nat} {one : List UInt8} {ar : List ByteArray} (h : PInv code data i at_ one ar) :
    (parseE ([bs one].map lb) = 0 ∧ parseE (ar.map lb) = 0) ∧ parseO ([bs one].map lb) = optsOf (gsAt code data i at_) ∧ parseO (ar.map lb) = optsOf (gsAt code data i at_) := by
  obtain ⟨k1, k2, k3, _⟩ := h
  have e1 : parseL ([bs one].map lb) [] = (0, gsAt code data i at_) := by
    have := k1 []
    rw [List.append_nil, readA_nil] at this
    rw [List.map_cons, lb_bs]
    show (if (readA one []).1 = 0 then parseL [] (readA one []).2 else readA one []) = _
    rw [this, if_pos rfl]; rfl
  unfold parseO parseE
  rw [e1, k2, if_pos rfl]
  exact ⟨⟨rfl, rfl⟩, rfl, rfl⟩
/-- the memory of the law's round -/
def HP (w : World) (va vs : Value) (one : List UInt8) (ar : List ByteArray) (W : World) : Prop := Below w.heap.size w W ∧ OwnB W w.heap.size va one ∧ OwnS W w.heap.size vs ar
theorem HP.step {w : World} {va vs : Value} {one : List UInt8} {ar : List ByteArray} {W W2 : World} (h : HP w va vs one ar W) (hb : Below W.heap.size W W2) : HP w va vs one ar W2 := ⟨chain h.1 hb, own_keep h.2.1 hb, own_keep h.2.2 hb⟩
theorem fin_all {w W W1 : World} {va vs va2 : Value} {one one2 : List UInt8} {ar : List ByteArray} (h : HP w va vs one ar W) (hg : W.grownBy W1 va.ownBlock) (ho : OwnB W1 w.heap.size va2 one2) : HP w va2 vs one2 ar W1 :=
  ⟨h.1.trans (below_grown h.1.size h.2.1 hg), ho, own_grow h.2.2 hg (fun k hk e => by
    rcases own_types h.2.2 h.2.1 (by decide) with e2 | e2
    · rw [e2] at hk; cases hk
    · exact e2 (hk.trans e.symm)) (Nat.le_refl _)⟩
theorem fin_str {w W W1 : World} {va vs vs2 : Value} {one : List UInt8} {ar ar2 : List ByteArray} (h : HP w va vs one ar W) (hg : W.grownBy W1 vs.ownBlock) (ho : OwnS W1 w.heap.size vs2 ar2) : HP w va vs2 one ar2 W1 :=
  ⟨h.1.trans ((Below.refl _ _).grown hg h.1.size (fun j hj => (h.2.2.lt j hj).1)), own_grow h.2.1 hg (fun k hk e => by
    rcases own_types h.2.1 h.2.2 (by decide) with e2 | e2
    · rw [e2] at hk; cases hk
    · exact e2 (hk.trans e.symm)) (Nat.le_refl _), ho⟩
end Go.Proofs.Ytmidnkfgbdiamaa
