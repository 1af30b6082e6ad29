/-
  Contract of the laws' few; contract of awake: the answers that the document fixes by number. Conditions: few: at most 1000 words of 64 bits.
-/
import Derived.Test.YtfmhpnendcikoaaGreatPoO
namespace Go.Proofs.YtfmhpnendcikoaaGreat
open Go.RowKit Go.Joins

theorem own_lo {W : World} {n x : Nat} {t : TypeId} (hx : x < 18446744073709551616) (hn : W.heap.size = n) : ∀ j u, (cellsA [x])[j]? = some u → (W.alloc (.cells #[.int .u64 0, .int .u64 (x : Nat)] t)).cell? ((⟨n, 0, none⟩ : Go.Addr).add j) = some u := by
  subst hn
  have h1 := hi_small hx
  have h2 := lo_small hx
  intro j u hj
  rw [add_at, Nat.zero_add]
  match j, hj with
  | 0, hj => simp [cellsA, cells2, h1] at hj; subst hj; simp [go_sem]
  | 1, hj => simp [cellsA, cells2, h2] at hj; subst hj; simp [go_sem]
  | j + 2, hj => simp [cellsA, cells2] at hj
set_option maxRecDepth 100000 in
set_option maxHeartbeats 1000000 in
theorem few_any {b o c : Nat} {l : List Nat} (hl : l.length ≤ 1000) (fl : ∀ a ∈ l, a < 18446744073709551616) (w : World) (hb : b < w.heap.size) (hv : ∀ j x, l[j]? = some x → w.cell? ⟨b, o + j, none⟩ = some (.int .u64 (x : Nat))) :
    Calls Tryz.prog 13 #[.slice (some ⟨b, o, none⟩) l.length c] w (MakesA w.heap.size l w) := by
  obtain ⟨i0, hif, hz0, hz1, hz2⟩ := info_parts infoA
  have HV := hide (fun W (H : Below w.heap.size w W) j x (h : l[j]? = some x) => (H.cell (p := ⟨b, o + j, none⟩) hb).trans (hv j x h))
  clear hv
  go_enter Tryz.func13, Tryz.ntmps13
  go_wp2_with (at_make; refine wpList_make_own _ rfl _ _ 23 rfl w.heap.size 31 i0 (.agg #[.int .u64 0, .int .u64 0]) 2 Tryz.underlying23 hif hz0 hz1 _ _ _ l.length rfl rfl rfl ?b2 ?b3 (Nat.le_refl _) ?_)
  case b2 => rw [hz2]; omega
  case b3 => unfold maxLen; omega
  intro w0 hown0 hgrow0
  have B0 : Below w.heap.size w w0 := (Below.refl _ _).grown hgrow0 (Nat.le_refl _) (fun k h => by cases h)
  have O0 : OwnA w0 w.heap.size (.slice (some ⟨w.heap.size, 0, none⟩) 0 l.length) [] := hown0
  clear hgrow0 hown0
  go_wp2_with fail
  go_loopw [3, 4] (fun s3 i wr => ∃ k : Nat, k ≤ l.length ∧ i = .int .i64 (k : Nat) ∧ Below w.heap.size w wr ∧ OwnA wr w.heap.size s3 (l.take k)) (fun _ i _ => l.length - (intOf i).toNat)
  case atStart => exact ⟨0, Nat.zero_le _, rfl, B0, by rw [List.take_zero]; exact O0⟩
  case round =>
    clear O0 B0
    obtain ⟨k, hk, rfl, HB, HO⟩ := hrel
    by_cases hlt : k < l.length
    · obtain ⟨x, hx⟩ := getA_some hlt
      have u0 := HV.out _ HB k x hx
      have fx := fl x (List.mem_of_getElem? hx)
      have bl : b < wr.heap.size := Nat.lt_of_lt_of_le hb HB.size
      have TK := hide (show l.take k ++ [x] = l.take (k + 1) by rw [List.take_add_one, hx]; rfl)
      have LT : (l.take k).length = k := by rw [List.length_take]; omega
      have O2 := own_keep HO (below_alloc wr (.cells #[.int .u64 0, .int .u64 (x : Nat)] 31))
      have B2 := HB.alloc HB.size (.cells #[.int .u64 0, .int .u64 (x : Nat)] 31)
      have Z2 := B2.size
      have LT1 : (l.take k).length + 1 ≤ 1000000 := by omega
      have N2 := hide (own_lo (W := wr) (t := 31) fx rfl)
      clear hx HO HB
      go_wp2_with (at_builtin; refine wpList_append_oneA rfl (.tmp 14) (.tmp 20) rfl w.heap.size _ (l.take k) rfl O2 _ 1 x rfl N2.out LT1 Z2 ?_; intro gn cn w8 O8 B8 _ _; have HB8 := B2.trans B8; rw [TK.out] at O8; clear O2 B2 Z2 B8 LT1 N2)
      go_roundw
      case rel => exact ⟨k + 1, hlt, by go_num, HB8, by rw [LT] at O8; exact O8⟩
      case measure => simp [intOf]; omega
    · have e : l.take k = l := List.take_of_length_le (by omega)
      rw [e] at HO
      clear e
      go_wp2
      go_ret
      exact ⟨_, rfl, HB, HO⟩

/-! ### awake -/
theorem fitl_small {l : List Rg} (h : ∀ x ∈ l, x.1 < 1000 ∧ x.2 < 1000) : FitL l := fun x hx => by
  have := h x hx
  unfold FitR Fits
  omega
theorem fita_small {l : List Nat} (h : ∀ x ∈ l, x < 1000) : ∀ a ∈ l, Fits a := fun x hx => by
  have := h x hx
  unfold Fits
  omega
theorem q1 : buildR [(1, 9), (5, 12)] [3, 12, 40] = ([(1, 2), (4, 11)], 0) := by decide +kernel
theorem q2 : freeR [(1, 2), (4, 11)] [5, 5, 99] = ([(1, 2), (4, 4), (6, 11)], 0) := by decide +kernel
theorem q3 : nthV [(1, 2), (4, 4), (6, 11)] (pickN [(1, 2), (4, 4), (6, 11)] 3) = 6 ∧ nthO [(1, 2), (4, 4), (6, 11)] (pickN [(1, 2), (4, 4), (6, 11)] 3) = true := by decide +kernel
abbrev z3 : List Lz := [⟨2, 7, 0, 0, ⟨#[]⟩, 0, 0⟩, ⟨2, 5, 0, 0, ⟨#[]⟩, 0, 0⟩, ⟨3, 0, 0, 0, ⟨#[]⟩, 0, 0⟩]
theorem q4 : ownS z3 2 = [5, 7] := by
  unfold ownS ownF
  rfl
theorem sm (a b : Nat) (w : World) : Calls Tryz.prog 12 #[.int .u64 (a : Nat), .int .u64 (b : Nat)] w (Gives (.agg #[.int .u64 0, .int .u64 (a : Nat), .int .u64 0, .int .u64 (b : Nat)]) w) := small_any a b w
theorem m19 (w : World) : Calls Tryz.prog 12 #[.int .u64 1, .int .u64 9] w (Gives (.agg #[.int .u64 0, .int .u64 1, .int .u64 0, .int .u64 9]) w) := small_any 1 9 w
theorem m512 (w : World) : Calls Tryz.prog 12 #[.int .u64 5, .int .u64 12] w (Gives (.agg #[.int .u64 0, .int .u64 5, .int .u64 0, .int .u64 12]) w) := small_any 5 12 w
theorem m12 (w : World) : Calls Tryz.prog 12 #[.int .u64 1, .int .u64 2] w (Gives (.agg #[.int .u64 0, .int .u64 1, .int .u64 0, .int .u64 2]) w) := small_any 1 2 w
theorem m411 (w : World) : Calls Tryz.prog 12 #[.int .u64 4, .int .u64 11] w (Gives (.agg #[.int .u64 0, .int .u64 4, .int .u64 0, .int .u64 11]) w) := small_any 4 11 w
theorem m44 (w : World) : Calls Tryz.prog 12 #[.int .u64 4, .int .u64 4] w (Gives (.agg #[.int .u64 0, .int .u64 4, .int .u64 0, .int .u64 4]) w) := small_any 4 4 w
theorem m611 (w : World) : Calls Tryz.prog 12 #[.int .u64 6, .int .u64 11] w (Gives (.agg #[.int .u64 0, .int .u64 6, .int .u64 0, .int .u64 11]) w) := small_any 6 11 w
theorem l19 (V : World) (t : TypeId) : Lst (.slice (some ⟨V.heap.size, 0, none⟩) 2 2) [(1, 9), (5, 12)] (V.alloc (.cells #[.int .u64 0, .int .u64 1, .int .u64 0, .int .u64 9, .int .u64 0, .int .u64 5, .int .u64 0, .int .u64 12] t)) := lst_two V (1, 9) (5, 12) t
theorem l12 (V : World) (t : TypeId) : Lst (.slice (some ⟨V.heap.size, 0, none⟩) 2 2) [(1, 2), (4, 11)] (V.alloc (.cells #[.int .u64 0, .int .u64 1, .int .u64 0, .int .u64 2, .int .u64 0, .int .u64 4, .int .u64 0, .int .u64 11] t)) := lst_two V (1, 2) (4, 11) t
theorem lst_three (V : World) (x y z : Rg) (t : TypeId) : Lst (.slice (some ⟨V.heap.size, 0, none⟩) 3 3) [x, y, z] (V.alloc (.cells #[.int .u64 (hi x.1 : Nat), .int .u64 (lo x.1 : Nat), .int .u64 (hi x.2 : Nat), .int .u64 (lo x.2 : Nat), .int .u64 (hi y.1 : Nat), .int .u64 (lo y.1 : Nat), .int .u64 (hi y.2 : Nat), .int .u64 (lo y.2 : Nat), .int .u64 (hi z.1 : Nat), .int .u64 (lo z.1 : Nat), .int .u64 (hi z.2 : Nat), .int .u64 (lo z.2 : Nat)] t)) := by
  refine Or.inr ⟨V.heap.size, 0, 3, rfl, ⟨by simp, fun j q hq => ?_⟩, by simp, by simp, by omega⟩
  match j, hq with
  | 0, hz => simp at hz; subst hz; refine ⟨?_, ?_, ?_, ?_⟩ <;> simp [go_sem]
  | 1, hz => simp at hz; subst hz; refine ⟨?_, ?_, ?_, ?_⟩ <;> simp [go_sem]
  | 2, hz => simp at hz; subst hz; refine ⟨?_, ?_, ?_, ?_⟩ <;> simp [go_sem]
  | j + 3, hz => simp at hz
theorem l3 (V : World) (t : TypeId) : Lst (.slice (some ⟨V.heap.size, 0, none⟩) 3 3) [(1, 2), (4, 4), (6, 11)] (V.alloc (.cells #[.int .u64 0, .int .u64 1, .int .u64 0, .int .u64 2, .int .u64 0, .int .u64 4, .int .u64 0, .int .u64 4, .int .u64 0, .int .u64 6, .int .u64 0, .int .u64 11] t)) := lst_three V (1, 2) (4, 4) (6, 11) t
theorem few3 (V : World) (a b d : Nat) (t : TypeId) (n c : Nat) (hn : V.heap.size = n) (h : a < 1000 ∧ b < 1000 ∧ d < 1000) :
    Calls Tryz.prog 13 #[.slice (some ⟨n, 0, none⟩) 3 c] (V.alloc (.cells #[.int .u64 (a : Nat), .int .u64 (b : Nat), .int .u64 (d : Nat)] t)) (MakesA (V.alloc (.cells #[.int .u64 (a : Nat), .int .u64 (b : Nat), .int .u64 (d : Nat)] t)).heap.size [a, b, d] (V.alloc (.cells #[.int .u64 (a : Nat), .int .u64 (b : Nat), .int .u64 (d : Nat)] t))) := by
  subst hn
  have := few_any (b := V.heap.size) (o := 0) (c := c) (l := [a, b, d]) (by simp) (fun x hx => by simp at hx; omega) (V.alloc (.cells #[.int .u64 (a : Nat), .int .u64 (b : Nat), .int .u64 (d : Nat)] t)) (by simp) (fun j x hx => by
    match j, hx with
    | 0, hz => simp at hz; subst hz; simp [go_sem]
    | 1, hz => simp at hz; subst hz; simp [go_sem]
    | 2, hz => simp at hz; subst hz; simp [go_sem]
    | j + 3, hz => simp at hz)
  exact this
theorem few2 (V : World) (a b : Nat) (t : TypeId) (n c : Nat) (hn : V.heap.size = n) (h : a < 1000 ∧ b < 1000) :
    Calls Tryz.prog 13 #[.slice (some ⟨n, 0, none⟩) 2 c] (V.alloc (.cells #[.int .u64 (a : Nat), .int .u64 (b : Nat)] t)) (MakesA (V.alloc (.cells #[.int .u64 (a : Nat), .int .u64 (b : Nat)] t)).heap.size [a, b] (V.alloc (.cells #[.int .u64 (a : Nat), .int .u64 (b : Nat)] t))) := by
  subst hn
  have := few_any (b := V.heap.size) (o := 0) (c := c) (l := [a, b]) (by simp) (fun x hx => by simp at hx; omega) (V.alloc (.cells #[.int .u64 (a : Nat), .int .u64 (b : Nat)] t)) (by simp) (fun j x hx => by
    match j, hx with
    | 0, hz => simp at hz; subst hz; simp [go_sem]
    | 1, hz => simp at hz; subst hz; simp [go_sem]
    | j + 2, hz => simp at hz)
  exact this
theorem f3a (V : World) (t : TypeId) (n : Nat) (hn : V.heap.size = n) : Calls Tryz.prog 13 #[.slice (some ⟨n, 0, none⟩) 3 3] (V.alloc (.cells #[.int .u64 3, .int .u64 12, .int .u64 40] t)) (MakesA (V.alloc (.cells #[.int .u64 3, .int .u64 12, .int .u64 40] t)).heap.size [3, 12, 40] (V.alloc (.cells #[.int .u64 3, .int .u64 12, .int .u64 40] t))) := few3 V 3 12 40 t n 3 hn (by omega)
theorem f3b (V : World) (t : TypeId) (n : Nat) (hn : V.heap.size = n) : Calls Tryz.prog 13 #[.slice (some ⟨n, 0, none⟩) 3 3] (V.alloc (.cells #[.int .u64 5, .int .u64 5, .int .u64 99] t)) (MakesA (V.alloc (.cells #[.int .u64 5, .int .u64 5, .int .u64 99] t)).heap.size [5, 5, 99] (V.alloc (.cells #[.int .u64 5, .int .u64 5, .int .u64 99] t))) := few3 V 5 5 99 t n 3 hn (by omega)
theorem f2a (V : World) (t : TypeId) (n : Nat) (hn : V.heap.size = n) : Calls Tryz.prog 13 #[.slice (some ⟨n, 0, none⟩) 2 2] (V.alloc (.cells #[.int .u64 5, .int .u64 7] t)) (MakesA (V.alloc (.cells #[.int .u64 5, .int .u64 7] t)).heap.size [5, 7] (V.alloc (.cells #[.int .u64 5, .int .u64 7] t))) := few2 V 5 7 t n 2 hn (by omega)
theorem cBuild (v u : Value) (W : World) (H : Lst v [(1, 9), (5, 12)] W) (K : LstA u [3, 12, 40] W) : Calls Tryz.prog 5 #[v, u] W (GivesE ([(1, 2), (4, 11)], 0) W) := q1 ▸ build_any (fitl_small (by decide)) (fita_small (by decide)) (by decide) (by decide) W H K
theorem cFree (v u : Value) (W : World) (H : Lst v [(1, 2), (4, 11)] W) (K : LstA u [5, 5, 99] W) : Calls Tryz.prog 8 #[v, u] W (GivesE ([(1, 2), (4, 4), (6, 11)], 0) W) := q2 ▸ free_any (fitl_small (by decide)) (fita_small (by decide)) (by decide) (by decide) W H K
theorem cPick (v : Value) (W : World) (H : Lst v [(1, 2), (4, 4), (6, 11)] W) : Calls Tryz.prog 10 #[v, .int .u64 3] W (Gives (.tuple #[.agg #[.int .u64 0, .int .u64 6], .bool true]) W) := via (pick_any (d := 3) (fitl_small (by decide)) (by decide) (by decide) W H) (by rw [q3.1, q3.2]; rfl)
theorem lstZ3 (V : World) (t : TypeId) (n : Nat) (hn : V.heap.size = n) : LstZ (some ⟨n, 0, none⟩) z3 (V.alloc (.cells #[.int .i64 2, .int .u64 0, .int .u64 7, .int .i64 0, .int .i64 0, .string ⟨#[]⟩, .int .u32 0, .int .i64 0, .int .i64 2, .int .u64 0, .int .u64 5, .int .i64 0, .int .i64 0, .string ⟨#[]⟩, .int .u32 0, .int .i64 0, .int .i64 3, .int .u64 0, .int .u64 0, .int .i64 0, .int .i64 0, .string ⟨#[]⟩, .int .u32 0, .int .i64 0] t)) := by
  subst hn
  intro k x hx
  refine ⟨_, 0, rfl, ?_⟩
  have h7 : hi 7 = 0 ∧ lo 7 = 7 := by decide
  have h5 : hi 5 = 0 ∧ lo 5 = 5 := by decide
  have h0 : hi 0 = 0 ∧ lo 0 = 0 := by decide
  match k, hx with
  | 0, hz => simp at hz; subst hz; refine ⟨?_, ?_, ?_, ?_, ?_, ?_, ?_, ?_⟩ <;> simp [go_sem, h7]
  | 1, hz => simp at hz; subst hz; refine ⟨?_, ?_, ?_, ?_, ?_, ?_, ?_, ?_⟩ <;> simp [go_sem, h5]
  | 2, hz => simp at hz; subst hz; refine ⟨?_, ?_, ?_, ?_, ?_, ?_, ?_, ?_⟩ <;> simp [go_sem, h0]
  | k + 3, hz => simp at hz
theorem cOwn (p : Option Go.Addr) (c : Nat) (W : World) (H : LstZ p z3 W) : Calls Tryz.prog 14 #[.slice p 3 c, .int .i64 2] W (MakesA W.heap.size [5, 7] W) := q4 ▸ own_any 2 (by decide) W H
theorem cSameP {va vb : Value} {l : List Rg} (hl : l.length ≤ 1000000) (W : World) (H : Lst va l W) (K : Lst vb l W) : Calls Tryz.prog 7 #[va, vb] W (Gives (.bool true) W) := via (same_any hl W H K) (by simp)
theorem cList {va vb : Value} {l : List Nat} (hl : l.length ≤ 1000000) (W : World) (H : LstA va l W) (K : LstA vb l W) : Calls Tryz.prog 15 #[va, vb] W (Gives (.bool true) W) := via (list_any hl W H K) (by simp)
/-- what awake has gathered -/
def HAw (w : World) (vs : Value) (s : List Rg) (vf : Value) (f : List Rg) (W : World) : Prop := Below w.heap.size w W ∧ Lst vs s W ∧ Lst vf f W
theorem HAw.step {w : World} {vs vf : Value} {s f : List Rg} {W w2 : World} (h : HAw w vs s vf f W) (hb : Below W.heap.size W w2) : HAw w vs s vf f w2 := ⟨chain h.1 hb, h.2.1.step hb, h.2.2.step hb⟩
set_option maxRecDepth 100000 in
set_option maxHeartbeats 4000000 in
theorem awake_any (w : World) : Calls Tryz.prog 4 #[] w (Gives (.bool true) w) := by
  go_enter Tryz.func4, Tryz.ntmps4
  go_wp2_with fail
  refine (m19 _).mono ?_
  rintro e w1 ⟨rfl, hb1⟩
  go_wp2_with fail
  refine (m512 _).mono ?_
  rintro e w2 ⟨rfl, hb2⟩
  have B2 := chain hb1 hb2
  have L3 := l19 w2 36
  have B3 := chain B2 (below_alloc w2 (.cells #[.int .u64 0, .int .u64 1, .int .u64 0, .int .u64 9, .int .u64 0, .int .u64 5, .int .u64 0, .int .u64 12] 36))
  clear hb1 hb2 B2
  have L4 := L3.step (below_alloc _ (.cells #[.int .u64 3, .int .u64 12, .int .u64 40] 24))
  have B4 := chain B3 (below_alloc _ (.cells #[.int .u64 3, .int .u64 12, .int .u64 40] 24))
  clear L3 B3
  go_wp2_with fail
  refine (f3a _ _ _ (by simp)).mono ?_
  rintro e w3 ⟨v3, rfl, hb3, O3⟩
  have B5 := chain B4 hb3
  have L5 := L4.step hb3
  have K5 := ownA_lst O3
  clear B4 hb3 L4 O3
  go_wp2_with fail
  refine (cBuild _ _ _ L5 K5).mono ?_
  rintro e w4 ⟨vs, rfl, hb4, O4⟩
  have B6 := chain B5 hb4
  have S6 := own_lst O4
  clear B5 hb4 L5 K5 O4
  have B7 := chain B6 (below_alloc _ (.cells #[.int .u64 5, .int .u64 5, .int .u64 99] 24))
  have S7 := S6.step (below_alloc _ (.cells #[.int .u64 5, .int .u64 5, .int .u64 99] 24))
  clear B6 S6
  go_wp2_with fail
  refine (f3b _ _ _ rfl).mono ?_
  rintro e w5 ⟨v5, rfl, hb5, O5⟩
  have B8 := chain B7 hb5
  have S8 := S7.step hb5
  have K8 := ownA_lst O5
  clear B7 S7 hb5 O5
  go_wp2_with fail
  refine (cFree _ _ _ S8 K8).mono ?_
  rintro e w6 ⟨vf, rfl, hb6, O6⟩
  have H9 : HAw w vs [(1, 2), (4, 11)] vf [(1, 2), (4, 4), (6, 11)] w6 := ⟨chain B8 hb6, S8.step hb6, own_lst O6⟩
  clear B8 S8 K8 hb6 O6
  go_wp2_with fail
  refine (cPick _ _ H9.2.2).mono ?_
  rintro e w7 ⟨rfl, hb7⟩
  have H10 := H9.step hb7
  have T10 := words6 (two_new w7 6 31)
  have H11 := H10.step (below_alloc w7 (.cells #[.int .u64 0, .int .u64 6] 31))
  clear H9 hb7 H10
  have H12 := H11.step (below_alloc _ (.cells #[.int .i64 2, .int .u64 0, .int .u64 7, .int .i64 0, .int .i64 0, .string ⟨#[]⟩, .int .u32 0, .int .i64 0, .int .i64 2, .int .u64 0, .int .u64 5, .int .i64 0, .int .i64 0, .string ⟨#[]⟩, .int .u32 0, .int .i64 0, .int .i64 3, .int .u64 0, .int .u64 0, .int .i64 0, .int .i64 0, .string ⟨#[]⟩, .int .u32 0, .int .i64 0] 45))
  have T12 := words6 ((two_new w7 6 31).step (below_alloc _ (.cells #[.int .i64 2, .int .u64 0, .int .u64 7, .int .i64 0, .int .i64 0, .string ⟨#[]⟩, .int .u32 0, .int .i64 0, .int .i64 2, .int .u64 0, .int .u64 5, .int .i64 0, .int .i64 0, .string ⟨#[]⟩, .int .u32 0, .int .i64 0, .int .i64 3, .int .u64 0, .int .u64 0, .int .i64 0, .int .i64 0, .string ⟨#[]⟩, .int .u32 0, .int .i64 0] 45)))
  have Z12 := lstZ3 (w7.alloc (.cells #[.int .u64 0, .int .u64 6] 31)) 45 (w7.heap.size + 1) (by simp)
  clear H11 T10
  go_wp2_with fail
  refine (cOwn _ _ _ Z12).mono ?_
  rintro e w8 ⟨vo, rfl, hb8, O8⟩
  have H13 := H12.step hb8
  have T13 : Two w7.heap.size 6 w8 := ((two_new w7 6 31).step (below_alloc _ (.cells #[.int .i64 2, .int .u64 0, .int .u64 7, .int .i64 0, .int .i64 0, .string ⟨#[]⟩, .int .u32 0, .int .i64 0, .int .i64 2, .int .u64 0, .int .u64 5, .int .i64 0, .int .i64 0, .string ⟨#[]⟩, .int .u32 0, .int .i64 0, .int .i64 3, .int .u64 0, .int .u64 0, .int .i64 0, .int .i64 0, .string ⟨#[]⟩, .int .u32 0, .int .i64 0] 45))).step hb8
  have K13 := ownA_lst O8
  clear H12 T12 Z12 hb8 O8
  go_wp2_with fail
  refine (m12 _).mono ?_
  rintro e w9 ⟨rfl, hb9⟩
  have H14 := H13.step hb9
  have T14 := T13.step hb9
  have K14 := K13.step hb9
  clear H13 T13 K13 hb9
  go_wp2_with fail
  refine (m411 _).mono ?_
  rintro e w10 ⟨rfl, hb10⟩
  have N15 := below_alloc w10 (.cells #[.int .u64 0, .int .u64 1, .int .u64 0, .int .u64 2, .int .u64 0, .int .u64 4, .int .u64 0, .int .u64 11] 36)
  have H15 := (H14.step hb10).step N15
  have T15 := (T14.step hb10).step N15
  have K15 := (K14.step hb10).step N15
  have L15 := l12 w10 36
  clear H14 T14 K14 hb10 N15
  go_wp2_with fail
  refine (cSameP (by simp) _ H15.2.1 L15).mono ?_
  rintro e w11 ⟨rfl, hb11⟩
  have H16 := H15.step hb11
  have T16 := T15.step hb11
  have K16 := K15.step hb11
  clear H15 T15 K15 hb11 L15
  go_wp2_with fail
  refine (m12 _).mono ?_
  rintro e w12 ⟨rfl, hb12⟩
  have H17 := H16.step hb12
  have T17 := T16.step hb12
  have K17 := K16.step hb12
  clear H16 T16 K16 hb12
  go_wp2_with fail
  refine (m44 _).mono ?_
  rintro e w13 ⟨rfl, hb13⟩
  have H18 := H17.step hb13
  have T18 := T17.step hb13
  have K18 := K17.step hb13
  clear H17 T17 K17 hb13
  go_wp2_with fail
  refine (m611 _).mono ?_
  rintro e w14 ⟨rfl, hb14⟩
  have N19 := below_alloc w14 (.cells #[.int .u64 0, .int .u64 1, .int .u64 0, .int .u64 2, .int .u64 0, .int .u64 4, .int .u64 0, .int .u64 4, .int .u64 0, .int .u64 6, .int .u64 0, .int .u64 11] 36)
  have H19 := (H18.step hb14).step N19
  have T19 := (T18.step hb14).step N19
  have K19 := (K18.step hb14).step N19
  have L19 := l3 w14 36
  clear H18 T18 K18 hb14 N19
  go_wp2_with fail
  refine (cSameP (by simp) _ H19.2.2 L19).mono ?_
  rintro e w15 ⟨rfl, hb15⟩
  have H20 := H19.step hb15
  have T20 := words6 (T19.step hb15)
  have N21 := below_alloc w15 (.cells #[.int .u64 5, .int .u64 7] 24)
  have T21 := words6 ((T19.step hb15).step N21)
  have H21 := H20.step N21
  have K21 := (K19.step hb15).step N21
  obtain ⟨t0, t1, t2, t3, t4⟩ := T20
  clear H19 T19 K19 hb15 L19 H20 N21
  go_wp2_with fail
  refine (f2a _ _ _ rfl).mono ?_
  rintro e w16 ⟨vk, rfl, hb16, O16⟩
  have H22 := H21.step hb16
  have K22 := K21.step hb16
  have J22 := ownA_lst O16
  clear H21 K21 hb16 O16 t0 t1 t2 t3 t4 T21
  go_wp2_with fail
  refine (cList (by simp) _ K22 J22).mono ?_
  rintro e w17 ⟨rfl, hb17⟩
  have HB := (H22.step hb17).1
  clear H22 K22 J22
  go_wp2
  go_ret
  exact ⟨rfl, HB⟩
end Go.Proofs.YtfmhpnendcikoaaGreat
