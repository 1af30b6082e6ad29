/-
  Contract of awake: the answers that the document fixes by number. No condition.
-/
import Derived.Test.YtbcdmnlkbghkpaaSpanB
namespace Go.Proofs.Ytbcdmnlkbghkpaa
open Go.RowKit Go.Joins

theorem fit_small {l : List Rg} (h : ∀ x ∈ l, x.1 < 1000 ∧ x.2 < 1000) : FitL l := fun x hx => by
  have := h x hx
  unfold FitR Fits
  omega
abbrev s0 : List Rg := [(1, 3), (7, 9)]
abbrev s1 : List Rg := [(1, 5), (7, 9)]
abbrev s2 : List Rg := [(1, 1), (9, 9)]
abbrev s3 : List Rg := [(2, 3), (7, 8)]
theorem f0 : FitL s0 := fit_small (by decide)
theorem f1 : FitL s1 := fit_small (by decide)
theorem f2 : FitL s2 := fit_small (by decide)
theorem fr_small {a b : Nat} (h : a < 1000 ∧ b < 1000) : FitR (a, b) := by unfold FitR Fits; simp only; omega
theorem k1 : putL s0 (4, 5) = s1 := by decide +kernel
theorem k2 : lessL s1 [(2, 8)] = s2 := by decide +kernel
theorem k3 : lessL s0 s2 = s3 := by decide +kernel
theorem k4 : cntV s0 = 6 ∧ cntO s0 = false := by decide +kernel
theorem k5 : nthV s0 3 = 7 ∧ nthO s0 3 = true := by decide +kernel
theorem k6 : rankS s0 8 = 4 := by decide +kernel
theorem k7 : hasB s0 9 = true := by decide +kernel
theorem k8 : soundL s0 = true ∧ soundL s1 = true ∧ soundL s2 = true := by decide +kernel
theorem lst_two (V : World) (x y : Rg) (t : TypeId) : Lst (.slice (some ⟨V.heap.size, 0, none⟩) 2 2) [x, y] (V.alloc (.cells #[.int .u64 (hi x.1 : Nat), .int .u64 (lo x.1 : Nat), .int .u64 (hi x.2 : Nat), .int .u64 (lo x.2 : Nat), .int .u64 (hi y.1 : Nat), .int .u64 (lo y.1 : Nat), .int .u64 (hi y.2 : Nat), .int .u64 (lo y.2 : Nat)] t)) := by
  refine Or.inr ⟨V.heap.size, 0, 2, rfl, ⟨by simp, fun j z hz => ?_⟩, by simp, by simp, by omega⟩
  match j, hz with
  | 0, hz => simp at hz; subst hz; refine ⟨?_, ?_, ?_, ?_⟩ <;> simp [go_sem]
  | 1, hz => simp at hz; subst hz; refine ⟨?_, ?_, ?_, ?_⟩ <;> simp [go_sem]
  | j + 2, hz => simp at hz
theorem sm13 (w : World) : Calls Try.prog 33 #[.int .u64 1, .int .u64 3] w (Gives (.agg #[.int .u64 0, .int .u64 1, .int .u64 0, .int .u64 3]) w) := small_any 1 3 w
theorem sm79 (w : World) : Calls Try.prog 33 #[.int .u64 7, .int .u64 9] w (Gives (.agg #[.int .u64 0, .int .u64 7, .int .u64 0, .int .u64 9]) w) := small_any 7 9 w
theorem sm45 (w : World) : Calls Try.prog 33 #[.int .u64 4, .int .u64 5] w (Gives (.agg #[.int .u64 0, .int .u64 4, .int .u64 0, .int .u64 5]) w) := small_any 4 5 w
theorem sm28 (w : World) : Calls Try.prog 33 #[.int .u64 2, .int .u64 8] w (Gives (.agg #[.int .u64 0, .int .u64 2, .int .u64 0, .int .u64 8]) w) := small_any 2 8 w
theorem sm15 (w : World) : Calls Try.prog 33 #[.int .u64 1, .int .u64 5] w (Gives (.agg #[.int .u64 0, .int .u64 1, .int .u64 0, .int .u64 5]) w) := small_any 1 5 w
theorem sm11 (w : World) : Calls Try.prog 33 #[.int .u64 1, .int .u64 1] w (Gives (.agg #[.int .u64 0, .int .u64 1, .int .u64 0, .int .u64 1]) w) := small_any 1 1 w
theorem sm99 (w : World) : Calls Try.prog 33 #[.int .u64 9, .int .u64 9] w (Gives (.agg #[.int .u64 0, .int .u64 9, .int .u64 0, .int .u64 9]) w) := small_any 9 9 w
theorem sm23 (w : World) : Calls Try.prog 33 #[.int .u64 2, .int .u64 3] w (Gives (.agg #[.int .u64 0, .int .u64 2, .int .u64 0, .int .u64 3]) w) := small_any 2 3 w
theorem sm78 (w : World) : Calls Try.prog 33 #[.int .u64 7, .int .u64 8] w (Gives (.agg #[.int .u64 0, .int .u64 7, .int .u64 0, .int .u64 8]) w) := small_any 7 8 w
theorem lt0 (V : World) (t : TypeId) : Lst (.slice (some ⟨V.heap.size, 0, none⟩) 2 2) [(1, 3), (7, 9)] (V.alloc (.cells #[.int .u64 0, .int .u64 1, .int .u64 0, .int .u64 3, .int .u64 0, .int .u64 7, .int .u64 0, .int .u64 9] t)) := lst_two V (1, 3) (7, 9) t
theorem lt1 (V : World) (t : TypeId) : Lst (.slice (some ⟨V.heap.size, 0, none⟩) 2 2) [(1, 5), (7, 9)] (V.alloc (.cells #[.int .u64 0, .int .u64 1, .int .u64 0, .int .u64 5, .int .u64 0, .int .u64 7, .int .u64 0, .int .u64 9] t)) := lst_two V (1, 5) (7, 9) t
theorem lt2 (V : World) (t : TypeId) : Lst (.slice (some ⟨V.heap.size, 0, none⟩) 2 2) [(1, 1), (9, 9)] (V.alloc (.cells #[.int .u64 0, .int .u64 1, .int .u64 0, .int .u64 1, .int .u64 0, .int .u64 9, .int .u64 0, .int .u64 9] t)) := lst_two V (1, 1) (9, 9) t
theorem lt3 (V : World) (t : TypeId) : Lst (.slice (some ⟨V.heap.size, 0, none⟩) 2 2) [(2, 3), (7, 8)] (V.alloc (.cells #[.int .u64 0, .int .u64 2, .int .u64 0, .int .u64 3, .int .u64 0, .int .u64 7, .int .u64 0, .int .u64 8] t)) := lst_two V (2, 3) (7, 8) t
theorem cPut (v : Value) (W : World) (H : Lst v s0 W) : Calls Try.prog 11 #[v, .agg #[.int .u64 0, .int .u64 4, .int .u64 0, .int .u64 5]] W (PutGives s1 W) := k1 ▸ put_any (r := (4, 5)) f0 (fr_small (by decide)) k8.1 (by decide) (by decide) W H
theorem cDrop (v : Value) (W : World) (H : Lst v s1 W) : Calls Try.prog 16 #[v, .agg #[.int .u64 0, .int .u64 2, .int .u64 0, .int .u64 8]] W (PutGives s2 W) := k2 ▸ drop_any (r := (2, 8)) f1 (fr_small (by decide)) k8.2.1 (by decide) (by decide) W H
theorem cLess (v u : Value) (W : World) (H : Lst v s0 W) (K : Lst u s2 W) : Calls Try.prog 18 #[v, u] W (PutGives s3 W) := k3 ▸ less_any f0 f2 k8.1 k8.2.2 (by decide) (by decide) W H K
theorem cCount (v : Value) (W : World) (H : Lst v s0 W) : Calls Try.prog 20 #[v] W (Gives (.tuple #[.agg #[.int .u64 0, .int .u64 6], .bool false]) W) := via (count_any f0 (by decide) W H) (by rw [k4.1, k4.2]; rfl)
theorem cNth (v : Value) (W : World) (H : Lst v s0 W) : Calls Try.prog 22 #[v, .agg #[.int .u64 0, .int .u64 3]] W (Gives (.tuple #[.agg #[.int .u64 0, .int .u64 7], .bool true]) W) := via (nth_any (n := 3) f0 (by unfold Fits; decide) (by decide) W H) (by rw [k5.1, k5.2]; rfl)
theorem cRank (v : Value) (W : World) (H : Lst v s0 W) : Calls Try.prog 26 #[v, .agg #[.int .u64 0, .int .u64 8]] W (Gives (.agg #[.int .u64 0, .int .u64 4]) W) := via (rank_any (a := 8) f0 (by unfold Fits; decide) (by decide) W H) (by rw [k6]; rfl)
theorem cHas (v : Value) (W : World) (H : Lst v s0 W) : Calls Try.prog 24 #[v, .agg #[.int .u64 0, .int .u64 9]] W (Gives (.bool true) W) := via (has_any f0 (by decide) 9 W H) (by rw [k7])
theorem cSound (v : Value) (W : World) (H : Lst v s0 W) : Calls Try.prog 14 #[v] W (Gives (.bool true) W) := via (sound_any f0 (by decide) W H) (by rw [k8.1])
theorem cSame {va vb : Value} {l : List Rg} (hl : l.length ≤ 1000000) (W : World) (H : Lst va l W) (K : Lst vb l W) : Calls Try.prog 13 #[va, vb] W (Gives (.bool true) W) := via (same_any hl W H K) (by simp)
theorem words6 {g : Nat} {W : World} (h : Two g 6 W) : g < W.heap.size ∧ W.cell? ⟨g, 0, none⟩ = some (.int .u64 0) ∧ W.cell? ⟨g, 1, none⟩ = some (.int .u64 6) ∧ W.frozen? ⟨g, 0, none⟩ = false ∧ W.frozen? ⟨g, 1, none⟩ = false := h
theorem words7 {g : Nat} {W : World} (h : Two g 7 W) : g < W.heap.size ∧ W.cell? ⟨g, 0, none⟩ = some (.int .u64 0) ∧ W.cell? ⟨g, 1, none⟩ = some (.int .u64 7) ∧ W.frozen? ⟨g, 0, none⟩ = false ∧ W.frozen? ⟨g, 1, none⟩ = false := h

set_option maxRecDepth 100000 in
set_option maxHeartbeats 2000000 in
theorem awake_any (w : World) : Calls Try.prog 10 #[] w (Gives (.bool true) w) := by
  go_enter Try.func10, Try.ntmps10
  go_wp2_with fail
  refine (sm13 _).mono ?_
  rintro e w1 ⟨rfl, hb1⟩
  have B := hb1
  clear hb1
  go_wp2_with fail
  refine (sm79 _).mono ?_
  rintro e w2 ⟨rfl, hb2⟩
  have B := chain B hb2
  clear hb2
  go_wp2_with fail
  have S := lt0 w2 27
  have AL := below_alloc w2 (.cells #[.int .u64 0, .int .u64 1, .int .u64 0, .int .u64 3, .int .u64 0, .int .u64 7, .int .u64 0, .int .u64 9] 27)
  have B := chain B AL
  clear AL
  refine (sm45 _).mono ?_
  rintro e w3 ⟨rfl, hb3⟩
  have B := chain B hb3
  have S := S.step hb3
  clear hb3
  go_wp2_with fail
  refine (cPut _ _ S).mono ?_
  rintro e w4 ⟨v4, rfl, hb4, ho4⟩
  have B := chain B hb4
  have S := S.step hb4
  have SA := own_lst ho4
  clear ho4
  clear hb4
  go_wp2_with fail
  refine (sm28 _).mono ?_
  rintro e w5 ⟨rfl, hb5⟩
  have B := chain B hb5
  have S := S.step hb5
  have SA := SA.step hb5
  clear hb5
  go_wp2_with fail
  refine (cDrop _ _ SA).mono ?_
  rintro e w6 ⟨v6, rfl, hb6, ho6⟩
  have B := chain B hb6
  have S := S.step hb6
  have SA := SA.step hb6
  have SB := own_lst ho6
  clear ho6
  clear hb6
  go_wp2_with fail
  refine (cLess _ _ _ S SB).mono ?_
  rintro e w7 ⟨v7, rfl, hb7, ho7⟩
  have B := chain B hb7
  have S := S.step hb7
  have SA := SA.step hb7
  have SB := SB.step hb7
  have SC := own_lst ho7
  clear ho7
  clear hb7
  go_wp2_with fail
  refine (cCount _ _ S).mono ?_
  rintro e w8 ⟨rfl, hb8⟩
  have B := chain B hb8
  have S := S.step hb8
  have SA := SA.step hb8
  have SB := SB.step hb8
  have SC := SC.step hb8
  clear hb8
  go_wp2_with fail
  have N := two_new w8 6 25
  have AL := below_alloc w8 (.cells #[.int .u64 0, .int .u64 6] 25)
  have B := chain B AL
  have S := S.step AL
  have SA := SA.step AL
  have SB := SB.step AL
  have SC := SC.step AL
  clear AL
  refine (cNth _ _ S).mono ?_
  rintro e w9 ⟨rfl, hb9⟩
  have B := chain B hb9
  have S := S.step hb9
  have SA := SA.step hb9
  have SB := SB.step hb9
  have SC := SC.step hb9
  have N := N.step hb9
  clear hb9
  go_wp2_with fail
  have X := two_new w9 7 25
  have AL := below_alloc w9 (.cells #[.int .u64 0, .int .u64 7] 25)
  have B := chain B AL
  have S := S.step AL
  have SA := SA.step AL
  have SB := SB.step AL
  have SC := SC.step AL
  have N := N.step AL
  clear AL
  refine (sm15 _).mono ?_
  rintro e w10 ⟨rfl, hb10⟩
  have B := chain B hb10
  have S := S.step hb10
  have SA := SA.step hb10
  have SB := SB.step hb10
  have SC := SC.step hb10
  have N := N.step hb10
  have X := X.step hb10
  clear hb10
  go_wp2_with fail
  refine (sm79 _).mono ?_
  rintro e w11 ⟨rfl, hb11⟩
  have B := chain B hb11
  have S := S.step hb11
  have SA := SA.step hb11
  have SB := SB.step hb11
  have SC := SC.step hb11
  have N := N.step hb11
  have X := X.step hb11
  clear hb11
  go_wp2_with fail
  have D1 := lt1 w11 27
  have AL := below_alloc w11 (.cells #[.int .u64 0, .int .u64 1, .int .u64 0, .int .u64 5, .int .u64 0, .int .u64 7, .int .u64 0, .int .u64 9] 27)
  have B := chain B AL
  have S := S.step AL
  have SA := SA.step AL
  have SB := SB.step AL
  have SC := SC.step AL
  have N := N.step AL
  have X := X.step AL
  clear AL
  refine (cSame (by decide) _ SA D1).mono ?_
  rintro e w12 ⟨rfl, hb12⟩
  have B := chain B hb12
  have S := S.step hb12
  have SA := SA.step hb12
  have SB := SB.step hb12
  have SC := SC.step hb12
  have N := N.step hb12
  have X := X.step hb12
  have D1 := D1.step hb12
  clear hb12
  go_wp2_with fail
  refine (sm11 _).mono ?_
  rintro e w13 ⟨rfl, hb13⟩
  have B := chain B hb13
  have S := S.step hb13
  have SA := SA.step hb13
  have SB := SB.step hb13
  have SC := SC.step hb13
  have N := N.step hb13
  have X := X.step hb13
  have D1 := D1.step hb13
  clear hb13
  go_wp2_with fail
  refine (sm99 _).mono ?_
  rintro e w14 ⟨rfl, hb14⟩
  have B := chain B hb14
  have S := S.step hb14
  have SA := SA.step hb14
  have SB := SB.step hb14
  have SC := SC.step hb14
  have N := N.step hb14
  have X := X.step hb14
  have D1 := D1.step hb14
  clear hb14
  go_wp2_with fail
  have D2 := lt2 w14 27
  have AL := below_alloc w14 (.cells #[.int .u64 0, .int .u64 1, .int .u64 0, .int .u64 1, .int .u64 0, .int .u64 9, .int .u64 0, .int .u64 9] 27)
  have B := chain B AL
  have S := S.step AL
  have SA := SA.step AL
  have SB := SB.step AL
  have SC := SC.step AL
  have N := N.step AL
  have X := X.step AL
  have D1 := D1.step AL
  clear AL
  refine (cSame (by decide) _ SB D2).mono ?_
  rintro e w15 ⟨rfl, hb15⟩
  have B := chain B hb15
  have S := S.step hb15
  have SA := SA.step hb15
  have SB := SB.step hb15
  have SC := SC.step hb15
  have N := N.step hb15
  have X := X.step hb15
  have D1 := D1.step hb15
  have D2 := D2.step hb15
  clear hb15
  go_wp2_with fail
  refine (sm23 _).mono ?_
  rintro e w16 ⟨rfl, hb16⟩
  have B := chain B hb16
  have S := S.step hb16
  have SA := SA.step hb16
  have SB := SB.step hb16
  have SC := SC.step hb16
  have N := N.step hb16
  have X := X.step hb16
  have D1 := D1.step hb16
  have D2 := D2.step hb16
  clear hb16
  go_wp2_with fail
  refine (sm78 _).mono ?_
  rintro e w17 ⟨rfl, hb17⟩
  have B := chain B hb17
  have S := S.step hb17
  have SA := SA.step hb17
  have SB := SB.step hb17
  have SC := SC.step hb17
  have N := N.step hb17
  have X := X.step hb17
  have D1 := D1.step hb17
  have D2 := D2.step hb17
  clear hb17
  go_wp2_with fail
  have D3 := lt3 w17 27
  have AL := below_alloc w17 (.cells #[.int .u64 0, .int .u64 2, .int .u64 0, .int .u64 3, .int .u64 0, .int .u64 7, .int .u64 0, .int .u64 8] 27)
  have B := chain B AL
  have S := S.step AL
  have SA := SA.step AL
  have SB := SB.step AL
  have SC := SC.step AL
  have N := N.step AL
  have X := X.step AL
  have D1 := D1.step AL
  have D2 := D2.step AL
  clear AL
  refine (cSame (by decide) _ SC D3).mono ?_
  rintro e w18 ⟨rfl, hb18⟩
  have B := chain B hb18
  have S := S.step hb18
  have SA := SA.step hb18
  have SB := SB.step hb18
  have SC := SC.step hb18
  have N := N.step hb18
  have X := X.step hb18
  have D1 := D1.step hb18
  have D2 := D2.step hb18
  have D3 := D3.step hb18
  clear hb18
  obtain ⟨n0, n1, n2, _, _⟩ := words6 N
  obtain ⟨y0, y1, y2, _, _⟩ := words7 X
  go_wp2_with fail
  refine (cRank _ _ S).mono ?_
  rintro e w19 ⟨rfl, hb19⟩
  have B := chain B hb19
  have S := S.step hb19
  have SA := SA.step hb19
  have SB := SB.step hb19
  have SC := SC.step hb19
  have N := N.step hb19
  have X := X.step hb19
  have D1 := D1.step hb19
  have D2 := D2.step hb19
  have D3 := D3.step hb19
  clear hb19
  clear n0 n1 n2 y0 y1 y2
  go_wp2_with fail
  refine (cHas _ _ S).mono ?_
  rintro e w20 ⟨rfl, hb20⟩
  have B := chain B hb20
  have S := S.step hb20
  have SA := SA.step hb20
  have SB := SB.step hb20
  have SC := SC.step hb20
  have N := N.step hb20
  have X := X.step hb20
  have D1 := D1.step hb20
  have D2 := D2.step hb20
  have D3 := D3.step hb20
  clear hb20
  go_wp2_with fail
  refine (cSound _ _ S).mono ?_
  rintro e w21 ⟨rfl, hb21⟩
  have B := chain B hb21
  have S := S.step hb21
  have SA := SA.step hb21
  have SB := SB.step hb21
  have SC := SC.step hb21
  have N := N.step hb21
  have X := X.step hb21
  have D1 := D1.step hb21
  have D2 := D2.step hb21
  have D3 := D3.step hb21
  clear hb21
  go_wp2
  go_ret
  exact ⟨rfl, B⟩
end Go.Proofs.Ytbcdmnlkbghkpaa
