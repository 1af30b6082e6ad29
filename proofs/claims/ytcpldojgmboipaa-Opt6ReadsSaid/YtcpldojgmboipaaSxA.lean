/-
  The laws' awake: answers that the document fixes by number.
-/
import Derived.Test.YtcpldojgmboipaaSxJ
namespace Go.Proofs.Ytcpldojgmboipaa
open Go.RowKit Go.Joins

def awS : ByteArray := ⟨#[0, 8, 0, 2, 0, 0]⟩
def awO : Opt := (8, ⟨#[0, 0]⟩)
def awA : IA := ⟨2, 1, 0, 0, [], 2⟩
def awP : Opt := (3, ⟨#[0, 0, 0, 1, 0, 0, 0, 0, 0, 0, 0, 0, 0, 13, 0, 2, 0, 2]⟩)
theorem aw_parE : parE awS = 0 := by decide +kernel
theorem aw_parL : parL awS = [awO] := by rfl
theorem aw_puE : puE awA = 0 := by rfl
theorem aw_puO : puO awA = awP := by rfl
theorem aw_getE : getE awP = 0 := by rfl
theorem aw_getV : getV6 awP = awA := by rfl
theorem aw_emE : emE [awO] = 0 := by rfl
theorem aw_emS : emS [awO] = [0, 8, 0, 2, 0, 0] := by rfl
theorem aw1 (W : World) : Calls Try.prog 10 #[.string ⟨#[0, 8, 0, 2, 0, 0]⟩] W fun e w' => ∃ p c, e = .returned (.tuple #[.slice p 1 c, .int .i64 0]) ∧ LstO (.slice p 1 c) [awO] w' ∧ Below W.heap.size W w' := by
  refine (parse_any (s := awS) (by unfold maxLen; decide) W).mono ?_
  rintro e w' ⟨v, rfl, h1, h2⟩
  rw [aw_parL] at h1
  obtain ⟨p, c, rfl, _⟩ := lenO h1
  exact ⟨p, c, by rw [aw_parE]; rfl, ownO_lst h1, h2⟩
theorem aw2 (W : World) : Calls Try.prog 19 #[.agg #[.int .i64 2, .int .u32 1, .int .u32 0, .int .u32 0, .slice none 0 0, .int .i64 2]] W (Gives (.tuple #[.agg #[.int .u16 3, .string ⟨#[0, 0, 0, 1, 0, 0, 0, 0, 0, 0, 0, 0, 0, 13, 0, 2, 0, 2]⟩], .int .i64 0]) W) := by
  have := putIA_any awA (fun x hx => by cases hx) (v := .slice none 0 0) (by decide) W (Or.inl ⟨none, 0, rfl, rfl, fun _ => rfl, by omega⟩)
  rw [aw_puO, aw_puE] at this
  exact this
theorem aw3 (W : World) : Calls Try.prog 23 #[.agg #[.int .u16 3, .string ⟨#[0, 0, 0, 1, 0, 0, 0, 0, 0, 0, 0, 0, 0, 13, 0, 2, 0, 2]⟩]] W fun e w' => ∃ p c, e = .returned (.tuple #[.agg #[.int .i64 2, .int .u32 1, .int .u32 0, .int .u32 0, .slice p 0 c, .int .i64 2], .int .i64 0]) ∧ LstI (.slice p 0 c) [] w' ∧ Below W.heap.size W w' := by
  refine (getIA_any awP (by unfold maxLen; decide) W).mono ?_
  rintro e w' ⟨v, rfl, h1, h2⟩
  rw [aw_getV] at h1
  obtain ⟨p, c, rfl⟩ := lstI_len (ownI_lst h1)
  exact ⟨p, c, by rw [aw_getV, aw_getE]; rfl, ownI_lst h1, h2⟩
theorem aw4 (p : Option Go.Addr) (c : Nat) (W : World) (h : LstO (.slice p 1 c) [awO] W) : Calls Try.prog 13 #[.slice p 1 c] W (Gives (.tuple #[.string ⟨#[0, 8, 0, 2, 0, 0]⟩, .int .i64 0]) W) := by
  have := emit_any (by decide) W h
  unfold EmitP at this
  rw [aw_emS, aw_emE] at this
  exact this
theorem aw5 (W : World) : Calls Try.prog 15 #[.string ⟨#[0, 5, 120]⟩] W (Same (.tuple #[.int .i64 5, .bool true]) W) :=
  getStatus_any (s := ⟨#[0, 5, 120]⟩) (by unfold maxLen; decide) W
theorem aw6 (W : World) : Calls Try.prog 17 #[.int .i64 5] W (Gives (.string ⟨#[0, 5]⟩) W) := putStatus_any 5 W
theorem aw7 (p : Option Go.Addr) (c : Nat) (W : World) (h : LstO (.slice p 1 c) [awO] W) : Calls Try.prog 12 #[.slice p 1 c, .slice (some ⟨W.heap.size, 0, none⟩) 1 1] (W.alloc (.cells #[.int .u16 8, .string ⟨#[0, 0]⟩] 40)) (Gives (.bool true) (W.alloc (.cells #[.int .u16 8, .string ⟨#[0, 0]⟩] 40))) := by
  have B := below_alloc W (.cells #[.int .u16 8, .string ⟨#[0, 0]⟩] 40)
  have X := bx_new W 40 #[.int .u16 8, .string ⟨#[0, 0]⟩]
  refine same_yes (l := [awO]) (by decide) _ (h.step B) (Or.inr ⟨W.heap.size, 0, 1, rfl, ⟨X.lt, fun j x hj => ?_⟩, by decide, by simp, by omega⟩)
  cases j with
  | zero =>
    simp at hj; subst hj
    exact ⟨X.cell 0, X.cell 1⟩
  | succ j => simp at hj
theorem aw8 (p : Option Go.Addr) (c : Nat) (W : World) (h : LstI (.slice p 0 c) [] W) : Calls Try.prog 25 #[.agg #[.int .i64 2, .int .u32 1, .int .u32 0, .int .u32 0, .slice p 0 c, .int .i64 2], .agg #[.int .i64 2, .int .u32 1, .int .u32 0, .int .u32 0, .slice none 0 0, .int .i64 2]] W (Gives (.bool true) W) :=
  ias_yes awA (by decide) W h (Or.inl ⟨none, 0, rfl, rfl, fun _ => rfl, by omega⟩)
set_option maxRecDepth 100000 in
set_option maxHeartbeats 4000000 in
theorem awake_any (w : World) : Calls Try.prog 9 #[] w (Gives (.bool true) w) := by
  have A1 := hide (fun W => aw1 W)
  have A2 := hide (fun W => aw2 W)
  have A3 := hide (fun W => aw3 W)
  have A4 := hide (fun p c W h => aw4 p c W h)
  have A5 := hide (fun W => aw5 W)
  have A6 := hide (fun W => aw6 W)
  have A7 := hide (fun p c W h => aw7 p c W h)
  have A8 := hide (fun p c W h => aw8 p c W h)
  go_enter Try.func9, Try.ntmps9
  go_wp2_with fail
  refine (A1.out _).mono ?_
  rintro e w1 ⟨p, c, rfl, L1, hb1⟩
  have D1 := hide hb1
  have L1 := hide L1
  clear hb1
  go_wp2_with fail
  refine (A2.out _).mono ?_
  rintro e w2 ⟨rfl, hb2⟩
  have D2 := hide (chain D1.out hb2)
  have L2 := hide (L1.out.step hb2)
  clear hb2 D1 L1
  have X2 := hide (bx_new w2 40 #[.int .u16 3, .string ⟨#[0, 0, 0, 1, 0, 0, 0, 0, 0, 0, 0, 0, 0, 13, 0, 2, 0, 2]⟩])
  have D3 := hide (chain D2.out (below_alloc w2 (.cells #[.int .u16 3, .string ⟨#[0, 0, 0, 1, 0, 0, 0, 0, 0, 0, 0, 0, 0, 13, 0, 2, 0, 2]⟩] 40)))
  have L3 := hide (L2.out.step (below_alloc w2 (.cells #[.int .u16 3, .string ⟨#[0, 0, 0, 1, 0, 0, 0, 0, 0, 0, 0, 0, 0, 13, 0, 2, 0, 2]⟩] 40)))
  clear D2 L2
  go_wp2_with fail
  generalize w2.alloc (.cells #[.int .u16 3, .string ⟨#[0, 0, 0, 1, 0, 0, 0, 0, 0, 0, 0, 0, 0, 13, 0, 2, 0, 2]⟩] 40) = w3 at *
  refine (A3.out _).mono ?_
  rintro e w4 ⟨p3, c3, rfl, I4, hb4⟩
  have D4 := hide (chain D3.out hb4)
  have L4 := hide (L3.out.step hb4)
  have X4 := hide (X2.out.step hb4)
  have X5 := hide (bx_new w4 37 #[.int .i64 2, .int .u32 1, .int .u32 0, .int .u32 0, .slice p3 0 c3, .int .i64 2])
  have D5 := hide (chain D4.out (below_alloc w4 (.cells #[.int .i64 2, .int .u32 1, .int .u32 0, .int .u32 0, .slice p3 0 c3, .int .i64 2] 37)))
  have L5 := hide (L4.out.step (below_alloc w4 (.cells #[.int .i64 2, .int .u32 1, .int .u32 0, .int .u32 0, .slice p3 0 c3, .int .i64 2] 37)))
  have X6 := hide (X4.out.step (below_alloc w4 (.cells #[.int .i64 2, .int .u32 1, .int .u32 0, .int .u32 0, .slice p3 0 c3, .int .i64 2] 37)))
  have I5 := hide (I4.step (below_alloc w4 (.cells #[.int .i64 2, .int .u32 1, .int .u32 0, .int .u32 0, .slice p3 0 c3, .int .i64 2] 37)))
  clear hb4 D3 L3 X2 D4 L4 X4 I4
  go_wp2_with fail
  generalize w4.alloc (.cells #[.int .i64 2, .int .u32 1, .int .u32 0, .int .u32 0, .slice p3 0 c3, .int .i64 2] 37) = w5 at *
  refine (A4.out p c _ L5.out).mono ?_
  rintro e w6 ⟨rfl, hb6⟩
  have D6 := hide (chain D5.out hb6)
  have L6 := hide (L5.out.step hb6)
  have X7 := hide (X6.out.step hb6)
  have X8 := hide (X5.out.step hb6)
  have I6 := hide (I5.out.step hb6)
  clear hb6 D5 L5 X5 X6 I5
  go_wp2_with fail
  refine (A5.out _).mono ?_
  rintro e w7 ⟨rfl, rfl⟩
  go_wp2_with fail
  refine (A7.out p c _ L6.out).mono ?_
  rintro e w8 ⟨rfl, hb8⟩
  have hb9 := chain (below_alloc w6 (.cells #[.int .u16 8, .string ⟨#[0, 0]⟩] 40)) hb8
  have D9 := hide (chain D6.out hb9)
  have X9 := X7.out.step hb9
  have XA := X8.out.step hb9
  have I9 := hide (I6.out.step hb9)
  have y0 := X9.cell 0
  have y1 := X9.cell 1
  have z := XA.cell
  have z0 := z 0
  have z1 := z 1
  have z2 := z 2
  have z3 := z 3
  have z4 := z 4
  have z5 := z 5
  simp at y0 y1 z0 z1 z2 z3 z4 z5
  clear hb8 hb9 X9 XA z D6 L6 X7 X8 I6
  go_wp2_with fail
  refine (A8.out p3 c3 _ I9.out).mono ?_
  rintro e wA ⟨rfl, hbA⟩
  have DA := hide (chain D9.out hbA)
  clear hbA y0 y1 z0 z1 z2 z3 z4 z5
  go_wp2_with fail
  refine (A6.out _).mono ?_
  rintro e wB ⟨rfl, hbB⟩
  have DB := hide (chain DA.out hbB)
  clear hbB
  go_wp2
  go_ret
  exact ⟨rfl, DB.out⟩
end Go.Proofs.Ytcpldojgmboipaa
