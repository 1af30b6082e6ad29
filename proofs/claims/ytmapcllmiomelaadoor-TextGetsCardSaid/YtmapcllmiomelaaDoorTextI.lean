/-
  Contract of Get6: the address that a text of groups is read as. Conditions: the library's variables hold what is laid; the text is shorter than 2^32 - 15 bytes.
-/
import Derived.Test.YtmapcllmiomelaaDoorTextJ
import Derived.Laws.CopyOwn
namespace Go.Proofs.YtmapcllmiomelaaDoor
open Go.RowKit Go.Joins

theorem grpF_lt : ∀ (l : List UInt8) (acc n : Nat), grpF acc l = some n → n < (acc + 1) * 16 ^ l.length
  | [], acc, n, h => by simp [grpF] at h; subst h; simp
  | c :: r, acc, n, h => by
    unfold grpF at h
    split at h
    · have h1 := grpF_lt r _ n h
      have h2 := (gx_all c).2
      have h3 : (acc * 16 + (gx c).toNat + 1) * 16 ^ r.length ≤ ((acc + 1) * 16) * 16 ^ r.length := Nat.mul_le_mul_right _ (by omega)
      rw [List.length_cons, Nat.pow_succ, Nat.mul_comm (16 ^ r.length) 16, ← Nat.mul_assoc]
      omega
    · cases h
theorem grp_lt {l : List UInt8} {n : Nat} (h : grp l = some n) : n < 65536 := by
  unfold grp at h
  split at h
  · cases h
  · rename_i hc
    have h1 := grpF_lt _ _ _ h
    have h2 : 16 ^ l.length ≤ 16 ^ 4 := Nat.pow_le_pow_right (by omega) (by omega)
    omega
theorem mapAll_lt : ∀ (ps : List ByteArray) (l : List Nat), mapAll ps = some l → ∀ n ∈ l, n < 65536
  | [], l, h => by simp [mapAll] at h; subst h; simp
  | p :: r, l, h => by
    unfold mapAll at h
    cases hp : grp p.data.toList with
    | none => rw [hp] at h; cases h
    | some x =>
      rw [hp] at h
      cases hr : mapAll r with
      | none => rw [hr] at h; cases h
      | some t =>
        rw [hr] at h
        simp at h
        subst h
        intro n hn
        rcases List.mem_cons.1 hn with rfl | hn
        · exact grp_lt hp
        · exact mapAll_lt r t hr n hn
theorem row6_lt {s : ByteArray} {l : List Nat} (h : row6 s = some l) : ∀ n ∈ l, n < 65536 := by
  unfold row6 at h
  split at h
  · simp at h; subst h; simp
  · exact mapAll_lt _ _ h

/-- the two sides of the first two colons, and whether there are such -/
def sideL (s : ByteArray) : ByteArray := ⟨(Lib.cut s.data.toList [58, 58]).1.toArray⟩
def sideR (s : ByteArray) : ByteArray := ⟨(Lib.cut s.data.toList [58, 58]).2.1.toArray⟩
def sideO (s : ByteArray) : Bool := (Lib.cut s.data.toList [58, 58]).2.2
theorem side_len (s : ByteArray) : (sideL s).size ≤ s.size ∧ (sideR s).size ≤ s.size := by
  have h : (Lib.cut s.data.toList [58, 58]).1.length ≤ s.data.toList.length ∧ (Lib.cut s.data.toList [58, 58]).2.1.length ≤ s.data.toList.length := by
    unfold Lib.cut
    split <;> simp <;> omega
  exact ⟨by show List.length _ ≤ _; exact h.1, by show List.length _ ≤ _; exact h.2⟩
theorem cut_any (s : ByteArray) (hs : Lim s.size) (w : World) (hv : VO w) :
    Calls Tryd.prog 28 #[.string s, .string ⟨#[58, 58]⟩] w (Gives (.tuple #[.string (sideL s), .string (sideR s), .bool (sideO s)]) w) := by
  obtain ⟨⟨m, h1⟩, _⟩ := id hv
  refine (Tryd.strings_Cut s ⟨#[58, 58]⟩ m w (by unfold Lim at hs; omega) h1).mono ?_
  rintro e w' ⟨rfl, n, rfl⟩
  exact ⟨rfl, below_drewN _ _⟩
/-- the eight groups -/
def fill8 (h t : List Nat) (k : Nat) : Nat := (h ++ List.replicate (8 - h.length - t.length) 0 ++ t).getD k 0
def six (h t : List Nat) : Nat := part (fill8 h t) 8
def get6 (s : ByteArray) : Option Nat :=
  match row6 (sideL s), row6 (sideR s) with
  | some h, some t => if (sideO s = true ∧ h.length + t.length ≤ 7) ∨ (sideO s = false ∧ h.length + t.length = 8) then some (six h t) else none
  | _, _ => none
def g6V (s : ByteArray) : Nat := match get6 s with | some n => n | none => 0
def g6O (s : ByteArray) : Bool := (get6 s).isSome
theorem get6_none {s : ByteArray} (h : get6 s = none) : g6V s = 0 ∧ g6O s = false := by unfold g6V g6O; rw [h]; exact ⟨rfl, rfl⟩
theorem get6_some {s : ByteArray} {n : Nat} (h : get6 s = some n) : g6V s = n ∧ g6O s = true := by unfold g6V g6O; rw [h]; exact ⟨rfl, rfl⟩

theorem own_form {w : World} {base n : Nat} {e : TypeId} {v : Value} {xs : List Value} (h : w.ownsRow base e 1 v n xs) : ∃ p cap, v = .slice p n cap ∧ xs.length = n ∧ (0 < n → ∃ ad : Go.Addr, p = some ad ∧ ad.block < w.heap.size ∧ ∀ j u, xs[j]? = some u → w.cell? (ad.add j) = some u) := by
  have hl := h.1
  rcases h.2 with ⟨rfl, rfl⟩ | ⟨g, cap, cur, rfl, hb, hg, _⟩
  · exact ⟨none, 0, rfl, by omega, fun h => absurd h (by omega)⟩
  · refine ⟨some ⟨g, 0, none⟩, cap, rfl, by omega, fun _ => ⟨_, rfl, ?_, h.cells rfl⟩⟩
    rcases Nat.lt_or_ge g w.heap.size with h' | h'
    · exact h'
    · rw [Array.getElem?_eq_none h'] at hg; cases hg

theorem mapAll_len : ∀ (ps : List ByteArray) (l : List Nat), mapAll ps = some l → l.length = ps.length
  | [], l, h => by simp [mapAll] at h; subst h; rfl
  | p :: r, l, h => by
    unfold mapAll at h
    cases hp : grp p.data.toList with
    | none => rw [hp] at h; cases h
    | some x =>
      rw [hp] at h
      cases hr : mapAll r with
      | none => rw [hr] at h; cases h
      | some t =>
        rw [hr] at h
        simp at h
        subst h
        rw [List.length_cons, List.length_cons, mapAll_len r t hr]
theorem row6_len {s : ByteArray} {l : List Nat} (h : row6 s = some l) : l.length ≤ 9 := by
  unfold row6 at h
  split at h
  · simp at h; subst h; simp
  · rw [mapAll_len _ _ h]; exact cols_le s
theorem fill8_lt {h t : List Nat} (hh : ∀ n ∈ h, n < 65536) (ht : ∀ n ∈ t, n < 65536) (k : Nat) : fill8 h t k < 65536 := by
  unfold fill8
  rw [List.getD_eq_getElem?_getD]
  cases e : (h ++ List.replicate (8 - h.length - t.length) 0 ++ t)[k]? with
  | none => simp
  | some n =>
    have hm := List.mem_of_getElem? e
    simp only [Option.getD_some]
    rcases List.mem_append.1 hm with hm | hm
    · rcases List.mem_append.1 hm with hm | hm
      · exact hh n hm
      · rw [(List.mem_replicate.1 hm).2]; omega
    · exact ht n hm
def zero8 : List Value := (List.replicate 8 0).map u16V
theorem splice_fill {h t : List Nat} (hl : h.length + t.length ≤ 8) : splice (splice zero8 0 (h.map u16V)) (h.length + (8 - h.length - t.length)) (t.map u16V) = (h ++ List.replicate (8 - h.length - t.length) 0 ++ t).map u16V := by
  unfold splice zero8
  simp only [List.take_zero, List.nil_append, List.length_map, Nat.zero_add, List.map_append, List.map_replicate, List.drop_replicate]
  rw [List.take_append, List.length_map, List.take_of_length_le (by simp), List.take_replicate]
  rw [List.drop_append, List.length_map, List.drop_replicate, List.drop_of_length_le (by simp; omega)]
  rw [show min (h.length + (8 - h.length - t.length) - h.length) (8 - h.length) = 8 - h.length - t.length by omega, show 8 - h.length - (h.length + (8 - h.length - t.length) + t.length - h.length) = 0 by omega]
  simp
theorem fill_len {h t : List Nat} (hl : h.length + t.length ≤ 8) : (h ++ List.replicate (8 - h.length - t.length) 0 ++ t).length = 8 := by
  simp; omega
theorem fill_cell {w : World} {g : Nat} {ty : TypeId} {h t : List Nat} (hl : h.length + t.length ≤ 8) (hg : w.heap[g]? = some (.cells ((h ++ List.replicate (8 - h.length - t.length) 0 ++ t).map u16V).toArray ty (0, 0))) (k : Nat) (hk : k < 8) :
    w.cell? ⟨g, k, none⟩ = some (.int .u16 (fill8 h t k : Nat)) := by
  rw [cell_of_row w g k _ ty (0, 0) hg, List.getElem?_toArray, List.getElem?_map]
  unfold fill8
  rw [List.getD_eq_getElem?_getD, List.getElem?_eq_getElem (by rw [fill_len hl]; exact hk)]
  rfl
theorem map_one (l : List Nat) : ∀ v ∈ l.map u16V, v.oneCell' = true := by
  intro v hv
  obtain ⟨n, _, rfl⟩ := List.mem_map.1 hv
  rfl
theorem size16 : (Tryd.prog.info? 59).map (·.size) = some 1 := by kernel_rfl
theorem add_block (a : Go.Addr) (j : Nat) : (a.add j).block = a.block := by cases j <;> rfl
theorem slice_low (g q : Nat) (hq : q ≤ 8) : ∃ sa : Go.Addr, (∀ W : World, (Instr.sliceAt 60 (.pointer (some ⟨g, 0, none⟩)) (some (.int .i64 (q : Int))) none none).run Tryd.prog W = .ok (.slice (some sa) (8 - q) (8 - q)) W) ∧ (q < 8 → sa = ⟨g, q, none⟩) := by
  have e8 : Tryd.prog.arrayLen 60 = 8 := by kernel_rfl
  have hs : ∀ W, (sizeOf (Tryd.prog.elem 60)).run Tryd.prog W = .ok 1 W := fun W => by kernel_rfl
  refine ⟨if 8 = q then ⟨g, 0, none⟩ else (⟨g, 0, none⟩ : Go.Addr).add (q * 1), fun W => ?_, fun h => ?_⟩
  · rw [run_sliceAt_array_l (P := Tryd.prog) W 60 ⟨g, 0, none⟩ (by kernel_rfl) .i64 (q : Int) (by omega) (by rw [e8]; omega), hs W]
    simp only [Result.andThen, slicedAt, e8, Int.toNat_natCast]
  · rw [if_neg (by omega), Nat.mul_one]
    cases q <;> simp [Addr.add]
theorem zero8_new (W : World) (ty : TypeId) : (W.alloc (.cells #[.int .u16 0, .int .u16 0, .int .u16 0, .int .u16 0, .int .u16 0, .int .u16 0, .int .u16 0, .int .u16 0] ty)).heap[W.heap.size]? = some (.cells zero8.toArray ty (0, 0)) := by
  rw [heap_alloc_new]
  rfl

set_option maxRecDepth 100000 in
set_option maxHeartbeats 2000000 in
theorem get6_any (s : ByteArray) (hs : Lim s.size) (w : World) (hv : VO w) :
    Calls Tryd.prog 10 #[.string s] w (Gives (.tuple #[A (g6V s), .bool (g6O s)]) w) := by
  have hsl : Lim (sideL s).size := Nat.le_trans (side_len s).1 hs
  have hsr : Lim (sideR s).size := Nat.le_trans (side_len s).2 hs
  have C := hide (cut_any s hs)
  have GL := hide (groups_any (sideL s) hsl)
  have GR := hide (groups_any (sideR s) hsr)
  cases hl : row6 (sideL s) with
  | none =>
    have KL := hide (row6_none hl)
    have R := hide (get6_none (show get6 s = none by unfold get6; rw [hl]))
    clear hl hsl hsr
    go_enter Tryd.func10, Tryd.ntmps10
    go_wp2_with fail
    refine (C.out _ (VO.step (below_alloc _ _) hv)).mono ?_
    rintro e w1 ⟨rfl, hb1⟩
    have HB1 := chain (below_alloc w _) hb1
    have T1 := (two_zero w 28).step hb1
    go_wp2_with fail
    refine (GL.out _ (VO.step HB1 hv)).mono ?_
    rintro e w2 ⟨v2, rfl, hb2, hown2⟩
    have HB2 := chain HB1 hb2
    have T2 := T1.step hb2
    rw [KL.out.2]
    go_wp2_with fail
    refine (GR.out _ (VO.step HB2 hv)).mono ?_
    rintro e w3 ⟨v3, rfl, hb3, hown3⟩
    have HB3 := chain HB2 hb3
    have T3 := T2.step hb3
    obtain ⟨c0, c1, c2, c3, c4⟩ := T3
    clear T1 T2 hb1 hb2 hb3 HB1 HB2 hown2 hown3
    go_wp2
    refine bodyPost_ret (v := .tuple #[A (g6V s), .bool (g6O s)]) ?_ rfl ⟨rfl, (HB3.setCell (by simp) _).setCell (by simp) _⟩
    rw [R.out.1, R.out.2]
    simp [results, Tryd.results10, go_sem, hi_zero, lo_zero, c0, c1]
  | some h =>
    cases hr : row6 (sideR s) with
    | none =>
      have KL := hide (row6_some hl)
      have KR := hide (row6_none hr)
      have R := hide (get6_none (show get6 s = none by unfold get6; rw [hl, hr]))
      clear hl hr hsl hsr
      go_enter Tryd.func10, Tryd.ntmps10
      go_wp2_with fail
      refine (C.out _ (VO.step (below_alloc _ _) hv)).mono ?_
      rintro e w1 ⟨rfl, hb1⟩
      have HB1 := chain (below_alloc w _) hb1
      have T1 := (two_zero w 28).step hb1
      go_wp2_with fail
      refine (GL.out _ (VO.step HB1 hv)).mono ?_
      rintro e w2 ⟨v2, rfl, hb2, hown2⟩
      have HB2 := chain HB1 hb2
      have T2 := T1.step hb2
      rw [KL.out.2]
      go_wp2_with fail
      refine (GR.out _ (VO.step HB2 hv)).mono ?_
      rintro e w3 ⟨v3, rfl, hb3, hown3⟩
      have HB3 := chain HB2 hb3
      have T3 := T2.step hb3
      rw [KR.out.2]
      obtain ⟨c0, c1, c2, c3, c4⟩ := T3
      clear T1 T2 hb1 hb2 hb3 HB1 HB2 hown2 hown3
      go_wp2
      refine bodyPost_ret (v := .tuple #[A (g6V s), .bool (g6O s)]) ?_ rfl ⟨rfl, (HB3.setCell (by simp) _).setCell (by simp) _⟩
      rw [R.out.1, R.out.2]
      simp [results, Tryd.results10, go_sem, hi_zero, lo_zero, c0, c1]
    | some t =>
      have KL := hide (row6_some hl)
      have KR := hide (row6_some hr)
      have nl := row6_len hl
      have nr := row6_len hr
      have LH := hide (row6_lt hl)
      have LT := hide (row6_lt hr)
      have G := hide (show get6 s = if (sideO s = true ∧ h.length + t.length ≤ 7) ∨ (sideO s = false ∧ h.length + t.length = 8) then some (six h t) else none by unfold get6; rw [hl, hr])
      clear hl hr hsl hsr
      cases ho : sideO s
      · by_cases hn : h.length + t.length = 8
        · have R := hide (get6_some (show get6 s = some (six h t) by rw [G.out, ho, if_pos (by simp; omega)]))
          have M0 : ((8 : Int) - (h.length : Int) - (t.length : Int) != 0) = false := by rw [bne_eq_false_iff_eq]; omega
          clear G
          go_enter Tryd.func10, Tryd.ntmps10
          go_wp2_with fail
          refine (C.out _ (VO.step (below_alloc _ _) hv)).mono ?_
          rintro e w1 ⟨rfl, hb1⟩
          have HB1 := chain (below_alloc w _) hb1
          have T1 := (two_zero w 28).step hb1
          go_wp2_with fail
          refine (GL.out _ (VO.step HB1 hv)).mono ?_
          rintro e w2 ⟨v2, rfl, hb2, hown2⟩
          have HB2 := chain HB1 hb2
          have T2 := T1.step hb2
          rw [KL.out.2]
          go_wp2_with fail
          refine (GR.out _ (VO.step HB2 hv)).mono ?_
          rintro e w3 ⟨v3, rfl, hb3, hown3⟩
          have HB3 := chain HB2 hb3
          have T3 := T2.step hb3
          rw [KR.out.2]
          obtain ⟨p2, cap2, rfl, hx2, hs2⟩ := own_form hown2
          obtain ⟨p3, cap3, rfl, hx3, hs3⟩ := own_form hown3
          rw [KL.out.1] at hs2 hx2 ⊢
          rw [KR.out.1] at hs3 hx3 ⊢
          obtain ⟨c0, c1, c2, c3, c4⟩ := id T3
          have hs2b : 0 < h.length → ∃ ad : Go.Addr, p2 = some ad ∧ ad.block < w3.heap.size ∧ ∀ j u, (h.map u16V)[j]? = some u → w3.cell? (ad.add j) = some u := fun hp => by obtain ⟨ad, e, l, f⟩ := hs2 hp; exact ⟨ad, e, Nat.lt_of_lt_of_le l hb3.size, fun j u hj => keep_cell hb3 (f j u hj)⟩
          have hs2b := hide hs2b
          have hs3 := hide hs3
          have hx2 := hide hx2
          have hx3 := hide hx3
          clear hs2 T1 T2 hb1 hb2 hb3 HB1 HB2 hown2 hown3
          have Z := zero8_new w3 60
          have hbA := below_alloc w3 (.cells #[.int .u16 0, .int .u16 0, .int .u16 0, .int .u16 0, .int .u16 0, .int .u16 0, .int .u16 0, .int .u16 0] 60)
          obtain ⟨q, hq⟩ : ∃ q : Nat, q = h.length + (8 - h.length - t.length) := ⟨_, rfl⟩
          have Q : (h.length : Int) + (8 - (h.length : Int) - (t.length : Int)) = (q : Int) := by omega
          have q8 : q ≤ 8 := by omega
          obtain ⟨sa, SL, hsa⟩ := slice_low w3.heap.size q q8
          have hsa := hide hsa
          have HQ := hide hq
          clear hq
          have JL : h.length + t.length ≤ 8 := by omega
          have SF := hide (splice_fill JL)
          have P1 := hide (show 0 < (h.map u16V).length → ∃ ad, p2 = some ad ∧ ∀ j v, (h.map u16V)[j]? = some v → (w3.alloc (.cells #[.int .u16 0, .int .u16 0, .int .u16 0, .int .u16 0, .int .u16 0, .int .u16 0, .int .u16 0, .int .u16 0] 60)).cell? (ad.add j) = some v from fun hp => by obtain ⟨ad, e, l, f⟩ := hs2b.out (by simpa using hp); exact ⟨ad, e, fun j v hj => (by rw [hbA.cell (by rw [add_block]; exact l)]; exact f j v hj)⟩)
          have E2 := hide (show 0 < (t.map u16V).length → q < 8 from fun hp => by have := HQ.out; simp at hp; omega)
          have N1 := hide (show (h.map u16V).length = Nat.min h.length 8 by show (List.map u16V h).length = min h.length 8; rw [List.length_map, Nat.min_eq_left (by omega)])
          have F1 := hide (show 0 + (h.map u16V).length ≤ zero8.length by simp [zero8]; omega)
          have N2 := hide (show (t.map u16V).length = Nat.min t.length (8 - q) by show (List.map u16V t).length = min t.length (8 - q); have := HQ.out; rw [List.length_map, Nat.min_eq_left (by omega)])
          have F2 := hide (show q + (t.map u16V).length ≤ (splice zero8 0 (h.map u16V)).length by rw [length_splice _ _ _ F1.out]; have := HQ.out; simp [zero8]; omega)
          go_wp2_with (with_reducible refine wpList_copy_splice rfl (.tmp 56) (.tmp 57) 56 56 rfl 59 Tryd.underlying56 size16 (some ⟨w3.heap.size, 0, none⟩) p2 8 8 h.length cap2 rfl rfl w3.heap.size 0 zero8 60 Z (h.map u16V) N1.out (fun hp => ⟨rfl, P1.out hp⟩) F1.out (map_one _) w3.heap.size w3 hbA (Nat.le_refl _) ?_)
          intro w5 hg5 hb5
          have P2 := hide (show 0 < (t.map u16V).length → ∃ ad, p3 = some ad ∧ ∀ j v, (t.map u16V)[j]? = some v → w5.cell? (ad.add j) = some v from fun hp => by obtain ⟨ad, e, l, f⟩ := hs3.out (by simpa using hp); exact ⟨ad, e, fun j v hj => (by rw [hb5.cell (by rw [add_block]; exact l)]; exact f j v hj)⟩)
          go_wp2_with (with_reducible refine wpList_copy_splice rfl (.tmp 63) (.tmp 64) 56 56 rfl 59 Tryd.underlying56 size16 (some sa) p3 (8 - q) (8 - q) t.length cap3 rfl rfl w3.heap.size q (splice zero8 0 (h.map u16V)) 60 hg5.out (t.map u16V) N2.out (fun hp => ⟨by rw [hsa.out (E2.out hp)], P2.out hp⟩) F2.out (map_one _) w3.heap.size w3 hb5 (Nat.le_refl _) ?_)
          intro w6 hg6 hb6
          rw [HQ.out, SF.out] at hg6
          have FC := hide (fun k (hk : k < 8) => fill_cell JL hg6.out k hk)
          clear hg5 hg6 hb5 P1 P2 N1 N2 F1 F2 E2 c0 c1 c2 c3 c4
          have J := hide (join_any (fill8 h t) (fill8_lt LH.out LT.out))
          have RV := hide (show g6V s = part (fill8 h t) 8 from R.out.1)
          generalize fill8 h t = G at FC J RV
          have FC0 := FC.out 0 (by omega)
          have FC1 := FC.out 1 (by omega)
          have FC2 := FC.out 2 (by omega)
          have FC3 := FC.out 3 (by omega)
          have FC4 := FC.out 4 (by omega)
          have FC5 := FC.out 5 (by omega)
          have FC6 := FC.out 6 (by omega)
          have FC7 := FC.out 7 (by omega)
          have T6 := T3.step hb6
          have HB6 := chain HB3 hb6
          clear hb6 T3 HB3 Z hbA SL
          go_wp2_with fail
          refine (J.out _).mono ?_
          rintro e w7 ⟨rfl, hb7⟩
          have T7 := T6.step hb7
          have HB7 := chain HB6 hb7
          obtain ⟨c0, c1, c2, c3, c4⟩ := id T7
          clear FC0 FC1 FC2 FC3 FC4 FC5 FC6 FC7 FC T6 T7 HB6 hb7
          go_wp2
          refine bodyPost_ret (v := .tuple #[A (g6V s), .bool (g6O s)]) ?_ rfl ⟨rfl, (HB7.setCell (by simp) _).setCell (by simp) _⟩
          rw [RV.out, R.out.2]
          simp [results, Tryd.results10, go_sem, c0, c1]
        · have R := hide (get6_none (show get6 s = none by rw [G.out, ho, if_neg (by simp; omega)]))
          have M0 : ((8 : Int) - (h.length : Int) - (t.length : Int) != 0) = true := by rw [bne_iff_ne]; omega
          clear G
          go_enter Tryd.func10, Tryd.ntmps10
          go_wp2_with fail
          refine (C.out _ (VO.step (below_alloc _ _) hv)).mono ?_
          rintro e w1 ⟨rfl, hb1⟩
          have HB1 := chain (below_alloc w _) hb1
          have T1 := (two_zero w 28).step hb1
          go_wp2_with fail
          refine (GL.out _ (VO.step HB1 hv)).mono ?_
          rintro e w2 ⟨v2, rfl, hb2, hown2⟩
          have HB2 := chain HB1 hb2
          have T2 := T1.step hb2
          rw [KL.out.2]
          go_wp2_with fail
          refine (GR.out _ (VO.step HB2 hv)).mono ?_
          rintro e w3 ⟨v3, rfl, hb3, hown3⟩
          have HB3 := chain HB2 hb3
          have T3 := T2.step hb3
          rw [KR.out.2]
          obtain ⟨p2, cap2, rfl, hx2, hs2⟩ := own_form hown2
          obtain ⟨p3, cap3, rfl, hx3, hs3⟩ := own_form hown3
          rw [KL.out.1] at hs2 hx2 ⊢
          rw [KR.out.1] at hs3 hx3 ⊢
          obtain ⟨c0, c1, c2, c3, c4⟩ := T3
          clear T1 T2 hb1 hb2 hb3 HB1 HB2 hown2 hown3 hs2 hs3 hx2 hx3
          go_wp2
          refine bodyPost_ret (v := .tuple #[A (g6V s), .bool (g6O s)]) ?_ rfl ⟨rfl, (HB3.setCell (by simp) _).setCell (by simp) _⟩
          rw [R.out.1, R.out.2]
          simp [results, Tryd.results10, go_sem, hi_zero, lo_zero, c0, c1]
      · by_cases hn : h.length + t.length ≤ 7
        · have R := hide (get6_some (show get6 s = some (six h t) by rw [G.out, ho, if_pos (by simp; omega)]))
          have M0 : ¬ (8 : Int) - (h.length : Int) - (t.length : Int) < 1 := by omega
          clear G
          go_enter Tryd.func10, Tryd.ntmps10
          go_wp2_with fail
          refine (C.out _ (VO.step (below_alloc _ _) hv)).mono ?_
          rintro e w1 ⟨rfl, hb1⟩
          have HB1 := chain (below_alloc w _) hb1
          have T1 := (two_zero w 28).step hb1
          go_wp2_with fail
          refine (GL.out _ (VO.step HB1 hv)).mono ?_
          rintro e w2 ⟨v2, rfl, hb2, hown2⟩
          have HB2 := chain HB1 hb2
          have T2 := T1.step hb2
          rw [KL.out.2]
          go_wp2_with fail
          refine (GR.out _ (VO.step HB2 hv)).mono ?_
          rintro e w3 ⟨v3, rfl, hb3, hown3⟩
          have HB3 := chain HB2 hb3
          have T3 := T2.step hb3
          rw [KR.out.2]
          obtain ⟨p2, cap2, rfl, hx2, hs2⟩ := own_form hown2
          obtain ⟨p3, cap3, rfl, hx3, hs3⟩ := own_form hown3
          rw [KL.out.1] at hs2 hx2 ⊢
          rw [KR.out.1] at hs3 hx3 ⊢
          obtain ⟨c0, c1, c2, c3, c4⟩ := id T3
          have hs2b : 0 < h.length → ∃ ad : Go.Addr, p2 = some ad ∧ ad.block < w3.heap.size ∧ ∀ j u, (h.map u16V)[j]? = some u → w3.cell? (ad.add j) = some u := fun hp => by obtain ⟨ad, e, l, f⟩ := hs2 hp; exact ⟨ad, e, Nat.lt_of_lt_of_le l hb3.size, fun j u hj => keep_cell hb3 (f j u hj)⟩
          have hs2b := hide hs2b
          have hs3 := hide hs3
          have hx2 := hide hx2
          have hx3 := hide hx3
          clear hs2 T1 T2 hb1 hb2 hb3 HB1 HB2 hown2 hown3
          have Z := zero8_new w3 60
          have hbA := below_alloc w3 (.cells #[.int .u16 0, .int .u16 0, .int .u16 0, .int .u16 0, .int .u16 0, .int .u16 0, .int .u16 0, .int .u16 0] 60)
          obtain ⟨q, hq⟩ : ∃ q : Nat, q = h.length + (8 - h.length - t.length) := ⟨_, rfl⟩
          have Q : (h.length : Int) + (8 - (h.length : Int) - (t.length : Int)) = (q : Int) := by omega
          have q8 : q ≤ 8 := by omega
          obtain ⟨sa, SL, hsa⟩ := slice_low w3.heap.size q q8
          have hsa := hide hsa
          have HQ := hide hq
          clear hq
          have JL : h.length + t.length ≤ 8 := by omega
          have SF := hide (splice_fill JL)
          have P1 := hide (show 0 < (h.map u16V).length → ∃ ad, p2 = some ad ∧ ∀ j v, (h.map u16V)[j]? = some v → (w3.alloc (.cells #[.int .u16 0, .int .u16 0, .int .u16 0, .int .u16 0, .int .u16 0, .int .u16 0, .int .u16 0, .int .u16 0] 60)).cell? (ad.add j) = some v from fun hp => by obtain ⟨ad, e, l, f⟩ := hs2b.out (by simpa using hp); exact ⟨ad, e, fun j v hj => (by rw [hbA.cell (by rw [add_block]; exact l)]; exact f j v hj)⟩)
          have E2 := hide (show 0 < (t.map u16V).length → q < 8 from fun hp => by have := HQ.out; simp at hp; omega)
          have N1 := hide (show (h.map u16V).length = Nat.min h.length 8 by show (List.map u16V h).length = min h.length 8; rw [List.length_map, Nat.min_eq_left (by omega)])
          have F1 := hide (show 0 + (h.map u16V).length ≤ zero8.length by simp [zero8]; omega)
          have N2 := hide (show (t.map u16V).length = Nat.min t.length (8 - q) by show (List.map u16V t).length = min t.length (8 - q); have := HQ.out; rw [List.length_map, Nat.min_eq_left (by omega)])
          have F2 := hide (show q + (t.map u16V).length ≤ (splice zero8 0 (h.map u16V)).length by rw [length_splice _ _ _ F1.out]; have := HQ.out; simp [zero8]; omega)
          go_wp2_with (with_reducible refine wpList_copy_splice rfl (.tmp 56) (.tmp 57) 56 56 rfl 59 Tryd.underlying56 size16 (some ⟨w3.heap.size, 0, none⟩) p2 8 8 h.length cap2 rfl rfl w3.heap.size 0 zero8 60 Z (h.map u16V) N1.out (fun hp => ⟨rfl, P1.out hp⟩) F1.out (map_one _) w3.heap.size w3 hbA (Nat.le_refl _) ?_)
          intro w5 hg5 hb5
          have P2 := hide (show 0 < (t.map u16V).length → ∃ ad, p3 = some ad ∧ ∀ j v, (t.map u16V)[j]? = some v → w5.cell? (ad.add j) = some v from fun hp => by obtain ⟨ad, e, l, f⟩ := hs3.out (by simpa using hp); exact ⟨ad, e, fun j v hj => (by rw [hb5.cell (by rw [add_block]; exact l)]; exact f j v hj)⟩)
          go_wp2_with (with_reducible refine wpList_copy_splice rfl (.tmp 63) (.tmp 64) 56 56 rfl 59 Tryd.underlying56 size16 (some sa) p3 (8 - q) (8 - q) t.length cap3 rfl rfl w3.heap.size q (splice zero8 0 (h.map u16V)) 60 hg5.out (t.map u16V) N2.out (fun hp => ⟨by rw [hsa.out (E2.out hp)], P2.out hp⟩) F2.out (map_one _) w3.heap.size w3 hb5 (Nat.le_refl _) ?_)
          intro w6 hg6 hb6
          rw [HQ.out, SF.out] at hg6
          have FC := hide (fun k (hk : k < 8) => fill_cell JL hg6.out k hk)
          clear hg5 hg6 hb5 P1 P2 N1 N2 F1 F2 E2 c0 c1 c2 c3 c4
          have J := hide (join_any (fill8 h t) (fill8_lt LH.out LT.out))
          have RV := hide (show g6V s = part (fill8 h t) 8 from R.out.1)
          generalize fill8 h t = G at FC J RV
          have FC0 := FC.out 0 (by omega)
          have FC1 := FC.out 1 (by omega)
          have FC2 := FC.out 2 (by omega)
          have FC3 := FC.out 3 (by omega)
          have FC4 := FC.out 4 (by omega)
          have FC5 := FC.out 5 (by omega)
          have FC6 := FC.out 6 (by omega)
          have FC7 := FC.out 7 (by omega)
          have T6 := T3.step hb6
          have HB6 := chain HB3 hb6
          clear hb6 T3 HB3 Z hbA SL
          go_wp2_with fail
          refine (J.out _).mono ?_
          rintro e w7 ⟨rfl, hb7⟩
          have T7 := T6.step hb7
          have HB7 := chain HB6 hb7
          obtain ⟨c0, c1, c2, c3, c4⟩ := id T7
          clear FC0 FC1 FC2 FC3 FC4 FC5 FC6 FC7 FC T6 T7 HB6 hb7
          go_wp2
          refine bodyPost_ret (v := .tuple #[A (g6V s), .bool (g6O s)]) ?_ rfl ⟨rfl, (HB7.setCell (by simp) _).setCell (by simp) _⟩
          rw [RV.out, R.out.2]
          simp [results, Tryd.results10, go_sem, c0, c1]
        · have R := hide (get6_none (show get6 s = none by rw [G.out, ho, if_neg (by simp; omega)]))
          have M0 : (8 : Int) - (h.length : Int) - (t.length : Int) < 1 := by omega
          clear G
          go_enter Tryd.func10, Tryd.ntmps10
          go_wp2_with fail
          refine (C.out _ (VO.step (below_alloc _ _) hv)).mono ?_
          rintro e w1 ⟨rfl, hb1⟩
          have HB1 := chain (below_alloc w _) hb1
          have T1 := (two_zero w 28).step hb1
          go_wp2_with fail
          refine (GL.out _ (VO.step HB1 hv)).mono ?_
          rintro e w2 ⟨v2, rfl, hb2, hown2⟩
          have HB2 := chain HB1 hb2
          have T2 := T1.step hb2
          rw [KL.out.2]
          go_wp2_with fail
          refine (GR.out _ (VO.step HB2 hv)).mono ?_
          rintro e w3 ⟨v3, rfl, hb3, hown3⟩
          have HB3 := chain HB2 hb3
          have T3 := T2.step hb3
          rw [KR.out.2]
          obtain ⟨p2, cap2, rfl, hx2, hs2⟩ := own_form hown2
          obtain ⟨p3, cap3, rfl, hx3, hs3⟩ := own_form hown3
          rw [KL.out.1] at hs2 hx2 ⊢
          rw [KR.out.1] at hs3 hx3 ⊢
          obtain ⟨c0, c1, c2, c3, c4⟩ := T3
          clear T1 T2 hb1 hb2 hb3 HB1 HB2 hown2 hown3 hs2 hs3 hx2 hx3
          go_wp2
          refine bodyPost_ret (v := .tuple #[A (g6V s), .bool (g6O s)]) ?_ rfl ⟨rfl, (HB3.setCell (by simp) _).setCell (by simp) _⟩
          rw [R.out.1, R.out.2]
          simp [results, Tryd.results10, go_sem, hi_zero, lo_zero, c0, c1]
end Go.Proofs.YtmapcllmiomelaaDoor
