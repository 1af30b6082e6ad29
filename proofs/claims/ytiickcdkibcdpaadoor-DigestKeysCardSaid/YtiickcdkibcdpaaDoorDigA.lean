/-
  The contract of add: the sums behind one more block. Condition: the block has 64 bytes; the package's variables hold what its text lays.
-/
import Derived.Test.YtiickcdkibcdpaaDoorDigS
import Derived.Test.YtiickcdkibcdpaaDoorDigI
namespace Go.Proofs.YtiickcdkibcdpaaDoor
open Go.RowKit Go.Joins

/-- the variables of the package hold what its text lays -/
def VO (W : World) : Prop := (W.cell? ⟨0, 0, none⟩ = some (U 1732584193) ∧ W.cell? ⟨0, 1, none⟩ = some (U 4023233417) ∧ W.cell? ⟨0, 2, none⟩ = some (U 2562383102) ∧ W.cell? ⟨0, 3, none⟩ = some (U 271733878)) ∧
  (∀ j, j < 16 → W.cell? ⟨3, j, none⟩ = some (.int .i64 (turn j : Nat))) ∧ ∀ j, j < 64 → W.cell? ⟨4, j, none⟩ = some (U (sine j))
theorem VO.step {W w2 : World} (h : VO W) (hb : Below W.heap.size W w2) : VO w2 :=
  ⟨⟨keep_cell hb h.1.1, keep_cell hb h.1.2.1, keep_cell hb h.1.2.2.1, keep_cell hb h.1.2.2.2⟩, fun j hj => keep_cell hb (h.2.1 j hj), fun j hj => keep_cell hb (h.2.2 j hj)⟩
/-- what stands about a call of add behind its declarations -/
def AR (w : World) (x : S4) (g5 g6 : Nat) (ws : List Nat) (y : S4) (W : World) : Prop :=
  Below w.heap.size w W ∧ Four w.heap.size x W ∧ Four (w.heap.size + 1) ⟨0, 0, 0, 0⟩ W ∧ Row g5 ws W ∧ Four g6 y W ∧ w.heap.size + 1 < g5 ∧ w.heap.size + 1 < g6 ∧ g5 ≠ g6
theorem AR.step {w : World} {x : S4} {g5 g6 : Nat} {ws : List Nat} {y : S4} {W w2 : World} (h : AR w x g5 g6 ws y W) (hb : Below W.heap.size W w2) : AR w x g5 g6 ws y w2 := by
  obtain ⟨h1, h2, h3, h4, h5, h6⟩ := h
  exact ⟨chain h1 hb, h2.step hb, h3.step hb, h4.step hb, h5.step hb, h6⟩
theorem C2.step {w : World} {x : S4} {W w2 : World} (h : C2 w x W) (hb : Below W.heap.size W w2) : C2 w x w2 := ⟨chain h.1 hb, h.2.1.step hb, h.2.2.step hb⟩
abbrev Z16 : List Nat := [0, 0, 0, 0, 0, 0, 0, 0, 0, 0, 0, 0, 0, 0, 0, 0]
theorem row_lit (W : World) (t : TypeId) : Row W.heap.size Z16 (W.alloc (.cells #[.int .u32 0, .int .u32 0, .int .u32 0, .int .u32 0, .int .u32 0, .int .u32 0, .int .u32 0, .int .u32 0, .int .u32 0, .int .u32 0, .int .u32 0, .int .u32 0, .int .u32 0, .int .u32 0, .int .u32 0, .int .u32 0] t)) := row_new W t
theorem four_lit (W : World) (t : TypeId) : Four W.heap.size ⟨0, 0, 0, 0⟩ (W.alloc (.cells #[.int .u32 0, .int .u32 0, .int .u32 0, .int .u32 0] t)) := four_new W ⟨0, 0, 0, 0⟩ t
theorem Row.all16 {g : Nat} {W : World} (h : Row g Z16 W) : W.cell? ⟨g, 0, none⟩ = some (.int .u32 0) ∧ W.cell? ⟨g, 1, none⟩ = some (.int .u32 0) ∧ W.cell? ⟨g, 2, none⟩ = some (.int .u32 0) ∧ W.cell? ⟨g, 3, none⟩ = some (.int .u32 0) ∧ W.cell? ⟨g, 4, none⟩ = some (.int .u32 0) ∧ W.cell? ⟨g, 5, none⟩ = some (.int .u32 0) ∧ W.cell? ⟨g, 6, none⟩ = some (.int .u32 0) ∧ W.cell? ⟨g, 7, none⟩ = some (.int .u32 0) ∧ W.cell? ⟨g, 8, none⟩ = some (.int .u32 0) ∧ W.cell? ⟨g, 9, none⟩ = some (.int .u32 0) ∧ W.cell? ⟨g, 10, none⟩ = some (.int .u32 0) ∧ W.cell? ⟨g, 11, none⟩ = some (.int .u32 0) ∧ W.cell? ⟨g, 12, none⟩ = some (.int .u32 0) ∧ W.cell? ⟨g, 13, none⟩ = some (.int .u32 0) ∧ W.cell? ⟨g, 14, none⟩ = some (.int .u32 0) ∧ W.cell? ⟨g, 15, none⟩ = some (.int .u32 0) ∧ W.frozen? ⟨g, 0, none⟩ = false ∧ W.frozen? ⟨g, 1, none⟩ = false ∧ W.frozen? ⟨g, 2, none⟩ = false ∧ W.frozen? ⟨g, 3, none⟩ = false ∧ W.frozen? ⟨g, 4, none⟩ = false ∧ W.frozen? ⟨g, 5, none⟩ = false ∧ W.frozen? ⟨g, 6, none⟩ = false ∧ W.frozen? ⟨g, 7, none⟩ = false ∧ W.frozen? ⟨g, 8, none⟩ = false ∧ W.frozen? ⟨g, 9, none⟩ = false ∧ W.frozen? ⟨g, 10, none⟩ = false ∧ W.frozen? ⟨g, 11, none⟩ = false ∧ W.frozen? ⟨g, 12, none⟩ = false ∧ W.frozen? ⟨g, 13, none⟩ = false ∧ W.frozen? ⟨g, 14, none⟩ = false ∧ W.frozen? ⟨g, 15, none⟩ = false := by
  obtain ⟨_, h2, h3, h4⟩ := h
  exact ⟨h3 0 (by omega), h3 1 (by omega), h3 2 (by omega), h3 3 (by omega), h3 4 (by omega), h3 5 (by omega), h3 6 (by omega), h3 7 (by omega), h3 8 (by omega), h3 9 (by omega), h3 10 (by omega), h3 11 (by omega), h3 12 (by omega), h3 13 (by omega), h3 14 (by omega), h3 15 (by omega), h4 0, h4 1, h4 2, h4 3, h4 4, h4 5, h4 6, h4 7, h4 8, h4 9, h4 10, h4 11, h4 12, h4 13, h4 14, h4 15⟩
theorem Four.other {g g' : Nat} {x : S4} {W : World} (h : Four g x W) (hn : g ≠ g') (j : Nat) (v : Value) : Four g x (W.setCell ⟨g', j, none⟩ v) := by
  obtain ⟨h1, ⟨u0, u1, u2, u3⟩, f0, f1, f2, f3⟩ := h
  have k := fun i => World.cell?_setCells_out g' [v] j W ⟨g, i, none⟩ (fun hg _ => absurd hg hn)
  exact ⟨by simpa using h1, ⟨(k 0).trans u0, (k 1).trans u1, (k 2).trans u2, (k 3).trans u3⟩, by simpa using f0, by simpa using f1, by simpa using f2, by simpa using f3⟩
theorem Four.set4 {g : Nat} {x y : S4} {W : World} (h : Four g x W) : Four g y ((((W.setCell ⟨g, 0, none⟩ (U y.a)).setCell ⟨g, 1, none⟩ (U y.b)).setCell ⟨g, 2, none⟩ (U y.c)).setCell ⟨g, 3, none⟩ (U y.d)) := by
  obtain ⟨h1, ⟨u0, u1, u2, u3⟩, f0, f1, f2, f3⟩ := h
  refine ⟨by simpa using h1, ⟨?_, ?_, ?_, ?_⟩, ?_, ?_, ?_, ?_⟩ <;> simp [go_sem, u0, u1, u2, u3, f0, f1, f2, f3]
theorem below_set {w W : World} (h : Below w.heap.size w W) {g : Nat} (hg : w.heap.size ≤ g) (j : Nat) (v : Value) : Below w.heap.size w (W.setCell ⟨g, j, none⟩ v) := h.setCell (by dsimp only; exact hg) _
/-- sixteen words stored one behind the other -/
def put16 (g : Nat) (W : World) (a0 a1 a2 a3 a4 a5 a6 a7 a8 a9 a10 a11 a12 a13 a14 a15 : Nat) : World := ((((((((((((((((W.setCell ⟨g, 0, none⟩ (U a0)).setCell ⟨g, 1, none⟩ (U a1)).setCell ⟨g, 2, none⟩ (U a2)).setCell ⟨g, 3, none⟩ (U a3)).setCell ⟨g, 4, none⟩ (U a4)).setCell ⟨g, 5, none⟩ (U a5)).setCell ⟨g, 6, none⟩ (U a6)).setCell ⟨g, 7, none⟩ (U a7)).setCell ⟨g, 8, none⟩ (U a8)).setCell ⟨g, 9, none⟩ (U a9)).setCell ⟨g, 10, none⟩ (U a10)).setCell ⟨g, 11, none⟩ (U a11)).setCell ⟨g, 12, none⟩ (U a12)).setCell ⟨g, 13, none⟩ (U a13)).setCell ⟨g, 14, none⟩ (U a14)).setCell ⟨g, 15, none⟩ (U a15))
section
variable {g : Nat} {W : World} {a0 a1 a2 a3 a4 a5 a6 a7 a8 a9 a10 a11 a12 a13 a14 a15 : Nat}
theorem put16_row (h : Row g Z16 W) : Row g [a0, a1, a2, a3, a4, a5, a6, a7, a8, a9, a10, a11, a12, a13, a14, a15] (put16 g W a0 a1 a2 a3 a4 a5 a6 a7 a8 a9 a10 a11 a12 a13 a14 a15) := by
  exact ((((((((((((((((h.set (j := 0) (x := a0) (by omega)).set (j := 1) (x := a1) (by omega)).set (j := 2) (x := a2) (by omega)).set (j := 3) (x := a3) (by omega)).set (j := 4) (x := a4) (by omega)).set (j := 5) (x := a5) (by omega)).set (j := 6) (x := a6) (by omega)).set (j := 7) (x := a7) (by omega)).set (j := 8) (x := a8) (by omega)).set (j := 9) (x := a9) (by omega)).set (j := 10) (x := a10) (by omega)).set (j := 11) (x := a11) (by omega)).set (j := 12) (x := a12) (by omega)).set (j := 13) (x := a13) (by omega)).set (j := 14) (x := a14) (by omega)).set (j := 15) (x := a15) (by omega))
theorem put16_below {w : World} (h : Below w.heap.size w W) (hg : w.heap.size ≤ g) : Below w.heap.size w (put16 g W a0 a1 a2 a3 a4 a5 a6 a7 a8 a9 a10 a11 a12 a13 a14 a15) := by
  unfold put16
  repeat' (first | (with_reducible exact h) | (with_reducible refine below_set ?_ hg _ _))
theorem put16_four {g' : Nat} {x : S4} (h : Four g' x W) (hn : g' ≠ g) : Four g' x (put16 g W a0 a1 a2 a3 a4 a5 a6 a7 a8 a9 a10 a11 a12 a13 a14 a15) := by
  unfold put16
  repeat' (first | (with_reducible exact h) | (with_reducible refine Four.other ?_ hn _ _))
theorem put16_size : (put16 g W a0 a1 a2 a3 a4 a5 a6 a7 a8 a9 a10 a11 a12 a13 a14 a15).heap.size = W.heap.size := by
  unfold put16
  simp
end
theorem turn_cell (W : World) (t : TypeId) (b0 b1 b2 b3 : Nat) : ∀ m, m < 4 → (W.alloc (.cells #[.int .i64 (b0 : Int), .int .i64 (b1 : Int), .int .i64 (b2 : Int), .int .i64 (b3 : Int)] t)).drew.cell? ⟨W.heap.size, m, none⟩ = some (.int .i64 (([b0, b1, b2, b3].getD m 0 : Nat) : Int))
  | 0, _ => by simp [go_sem]
  | 1, _ => by simp [go_sem]
  | 2, _ => by simp [go_sem]
  | 3, _ => by simp [go_sem]
theorem turn_at (b m : Nat) (h : m < 4) : [turn b, turn (b + 1), turn (b + 2), turn (b + 3)].getD m 0 = turn (b + m) := by
  match m, h with
  | 0, _ => rfl
  | 1, _ => rfl
  | 2, _ => rfl
  | 3, _ => rfl
def mixS (x y : S4) : Nat → S4
  | 0 => x
  | 1 => ⟨add32 x.a y.a, x.b, x.c, x.d⟩
  | 2 => ⟨add32 x.a y.a, add32 x.b y.b, x.c, x.d⟩
  | 3 => ⟨add32 x.a y.a, add32 x.b y.b, add32 x.c y.c, x.d⟩
  | _ => sumS x y
theorem Four.set0 {g v : Nat} {x : S4} {W : World} (h : Four g x W) : Four g ⟨v, x.b, x.c, x.d⟩ (W.setCell ⟨g, 0, none⟩ (U v)) := by
  obtain ⟨h1, ⟨u0, u1, u2, u3⟩, f0, f1, f2, f3⟩ := h
  refine ⟨by simpa using h1, ⟨?_, ?_, ?_, ?_⟩, ?_, ?_, ?_, ?_⟩ <;> simp [go_sem, u0, u1, u2, u3, f0, f1, f2, f3]
theorem Four.set1 {g v : Nat} {x : S4} {W : World} (h : Four g x W) : Four g ⟨x.a, v, x.c, x.d⟩ (W.setCell ⟨g, 1, none⟩ (U v)) := by
  obtain ⟨h1, ⟨u0, u1, u2, u3⟩, f0, f1, f2, f3⟩ := h
  refine ⟨by simpa using h1, ⟨?_, ?_, ?_, ?_⟩, ?_, ?_, ?_, ?_⟩ <;> simp [go_sem, u0, u1, u2, u3, f0, f1, f2, f3]
theorem Four.set2 {g v : Nat} {x : S4} {W : World} (h : Four g x W) : Four g ⟨x.a, x.b, v, x.d⟩ (W.setCell ⟨g, 2, none⟩ (U v)) := by
  obtain ⟨h1, ⟨u0, u1, u2, u3⟩, f0, f1, f2, f3⟩ := h
  refine ⟨by simpa using h1, ⟨?_, ?_, ?_, ?_⟩, ?_, ?_, ?_, ?_⟩ <;> simp [go_sem, u0, u1, u2, u3, f0, f1, f2, f3]
theorem Four.set3 {g v : Nat} {x : S4} {W : World} (h : Four g x W) : Four g ⟨x.a, x.b, x.c, v⟩ (W.setCell ⟨g, 3, none⟩ (U v)) := by
  obtain ⟨h1, ⟨u0, u1, u2, u3⟩, f0, f1, f2, f3⟩ := h
  refine ⟨by simpa using h1, ⟨?_, ?_, ?_, ?_⟩, ?_, ?_, ?_, ?_⟩ <;> simp [go_sem, u0, u1, u2, u3, f0, f1, f2, f3]
theorem AR.put {w : World} {x x' : S4} {g5 g6 : Nat} {ws : List Nat} {y : S4} {W : World} (h : AR w x g5 g6 ws y W) (j : Nat) (v : Value) (k : Four w.heap.size x W → Four w.heap.size x' (W.setCell ⟨w.heap.size, j, none⟩ v)) :
    AR w x' g5 g6 ws y (W.setCell ⟨w.heap.size, j, none⟩ v) := by
  obtain ⟨h1, h2, h3, h4, h5, h6, h7, h8⟩ := h
  exact ⟨below_set h1 (Nat.le_refl _) _ _, k h2, h3.other (by omega) _ _, h4.other (by omega) _ _, h5.other (by omega) _ _, h6, h7, h8⟩
/-- the frame of add in its first region -/
def act1 (x : S4) (t : ByteArray) (B : Nat) (s5 s6 s12 s13 s14 : Value) : Act := { tmps := #[V4 x, .string t, .pointer (some ⟨B, 0, none⟩), undef, .pointer (some ⟨B + 1, 0, none⟩), s5, s6, undef, undef, undef, undef, undef, s12, s13, s14, undef, undef, undef, undef, undef, undef, undef, undef, undef, undef, undef, undef, undef, undef, undef, undef, undef, undef, undef, undef, undef, undef, undef, undef, undef, undef, undef, undef, undef, undef, undef, undef, undef, undef, undef, undef, undef, undef, undef, undef, undef, undef], defers := [] }
/-- what holds in it, whatever has been done -/
def I1 (w : World) (x : S4) (t : ByteArray) (ws : List Nat) (L : Nat → Bool) (a : Act) (W : World) : Prop :=
  ∃ (s5 s6 s12 s13 s14 : Value) (g5 g6 : Nat), a = act1 x t w.heap.size s5 s6 s12 s13 s14 ∧ C2 w x W ∧ (L 0 = true → s12 = .string t) ∧ (L 1 = true → s13 = .agg (ws.map U).toArray) ∧ (L 2 = true → s14 = V4 x) ∧
    (L 3 = true → s5 = .pointer (some ⟨g5, 0, none⟩) ∧ w.heap.size + 1 < g5 ∧ g5 < W.heap.size) ∧ (L 3 = true → L 5 = false → Row g5 Z16 W) ∧ (L 5 = true → L 3 = true ∧ Row g5 ws W) ∧
    (L 4 = true → s6 = .pointer (some ⟨g6, 0, none⟩) ∧ w.heap.size + 1 < g6 ∧ g6 < W.heap.size) ∧ (L 4 = true → L 6 = false → Four g6 ⟨0, 0, 0, 0⟩ W) ∧ (L 6 = true → L 4 = true ∧ Four g6 x W) ∧ (L 3 = true → L 4 = true → g5 ≠ g6)

set_option maxRecDepth 100000 in
set_option maxHeartbeats 1000000 in
theorem add_any (s : S4) (t : ByteArray) (hs : Ok4 s) (ht : t.size = 64) (w : World) (hv : VO w) :
    Calls Tryd.prog 18 #[V4 s, .string t] w (Gives (V4 (blockS s t.data.toList)) w) := by
  have SP := hide (fun W => split_any t ht W)
  have HB := hide (show blockS s t.data.toList = sumS s (stepsS (wordsL t.data.toList) 64 s) from rfl)
  have HW := hide (fun i => wAcc_u32 t.data.toList 64 i)
  have L16 : (wordsL t.data.toList).length = 16 := wAcc_length _ _
  have eW : wAcc t.data.toList 64 = wordsL t.data.toList := rfl
  rw [eW] at HW
  clear eW
  generalize wordsL t.data.toList = ws at *
  generalize blockS s t.data.toList = res at *
  have H0 := c2_new w s 36 36
  have HS := hide hs
  clear hs ht
  obtain ⟨a0, a1, a2, a3, a4, a5, a6, a7, a8, a9, a10, a11, a12, a13, a14, a15, rfl⟩ := list16 L16
  rw [show (List.map U [a0, a1, a2, a3, a4, a5, a6, a7, a8, a9, a10, a11, a12, a13, a14, a15]).toArray = #[U a0, U a1, U a2, U a3, U a4, U a5, U a6, U a7, U a8, U a9, U a10, U a11, U a12, U a13, U a14, U a15] from rfl] at SP
  clear L16
  go_enter Tryd.func18, Tryd.ntmps18
  go_wp2_with fail
  refine region_keeps (I1 w s t [a0, a1, a2, a3, a4, a5, a6, a7, a8, a9, a10, a11, a12, a13, a14, a15]) (by kernel_rfl) (by kernel_rfl) ?_ (fun Q => ?_) ?_
  · exact ⟨undef, undef, undef, undef, undef, 0, 0, rfl, H0, (fun h => by cases h), (fun h => by cases h), (fun h => by cases h), (fun h => by cases h), (fun h => by cases h), (fun h => by cases h), (fun h => by cases h), (fun h => by cases h), (fun h => by cases h), (fun h => by cases h)⟩
  · clear H0 HB HW hv
    refine keeps_cons ?_ (keeps_cons ?_ (keeps_cons ?_ (keeps_cons ?_ (keeps_cons ?_ (keeps_cons ?_ (keeps_cons ?_ keeps_nil))))))
    all_goals rintro L a W ⟨s5, s6, s12, s13, s14, g5, g6, rfl, h1, h2, h3, h4, h5, h6, h7, h8, h9, h10, h11⟩ hd hn K hK
    all_goals unfold act1
    · clear hd hn
      go_wp2
      exact hK _ _ ⟨s5, s6, .string t, s13, s14, g5, g6, rfl, h1, fun _ => rfl, h3, h4, h5, h6, h7, h8, h9, h10, h11⟩
    · obtain rfl := h2 (hd 0 (by kernel_rfl))
      clear hd hn
      go_wp2_with fail
      refine (SP.out _).mono ?_
      rintro e w2 ⟨rfl, hb⟩
      go_wp2
      exact hK _ _ ⟨s5, s6, .string t, _, s14, g5, g6, rfl, h1.step hb, fun _ => rfl, fun _ => rfl, h4, fun h => ⟨(h5 h).1, (h5 h).2.1, Nat.lt_of_lt_of_le (h5 h).2.2 hb.size⟩, fun h k => (h6 h k).step hb, fun h => ⟨(h7 h).1, (h7 h).2.step hb⟩,
        fun h => ⟨(h8 h).1, (h8 h).2.1, Nat.lt_of_lt_of_le (h8 h).2.2 hb.size⟩, fun h k => (h9 h k).step hb, fun h => ⟨(h10 h).1, (h10 h).2.step hb⟩, h11⟩
    · obtain ⟨_, ⟨_, ⟨u0, u1, u2, u3⟩, _⟩, _⟩ := id h1
      clear hd hn
      go_wp2
      exact hK _ _ ⟨s5, s6, s12, s13, _, g5, g6, rfl, h1, h2, h3, fun _ => rfl, h5, h6, h7, h8, h9, h10, h11⟩
    · have n5 : L 5 = false := by
        rcases h : L 5 with _ | _
        · rfl
        · have := (h7 h).1; rw [hn] at this; cases this
      have hb := below_alloc W (.cells #[.int .u32 0, .int .u32 0, .int .u32 0, .int .u32 0, .int .u32 0, .int .u32 0, .int .u32 0, .int .u32 0, .int .u32 0, .int .u32 0, .int .u32 0, .int .u32 0, .int .u32 0, .int .u32 0, .int .u32 0, .int .u32 0] 40)
      have R := row_lit W 40
      have LW : w.heap.size + 1 < W.heap.size := h1.2.2.1
      clear hd
      go_wp2
      refine hK _ _ ⟨_, s6, s12, s13, s14, W.heap.size, g6, rfl, h1.step hb, h2, h3, h4, fun _ => ⟨rfl, LW, by simp⟩, fun _ _ => R, fun h => absurd (show L 5 = true from h) (by rw [n5]; decide),
        fun h => ⟨(h8 h).1, (h8 h).2.1, Nat.lt_of_lt_of_le (h8 h).2.2 hb.size⟩, fun h k => (h9 h k).step hb, fun h => ⟨(h10 h).1, (h10 h).2.step hb⟩, fun _ h => ?_⟩
      have := (h8 h).2.2
      omega
    · have n6 : L 6 = false := by
        rcases h : L 6 with _ | _
        · rfl
        · have := (h10 h).1; rw [hn] at this; cases this
      have hb := below_alloc W (.cells #[.int .u32 0, .int .u32 0, .int .u32 0, .int .u32 0] 36)
      have R := four_lit W 36
      have LW : w.heap.size + 1 < W.heap.size := h1.2.2.1
      clear hd
      go_wp2
      refine hK _ _ ⟨s5, _, s12, s13, s14, g5, W.heap.size, rfl, h1.step hb, h2, h3, h4, fun h => ⟨(h5 h).1, (h5 h).2.1, Nat.lt_of_lt_of_le (h5 h).2.2 hb.size⟩, fun h k => (h6 h k).step hb, fun h => ⟨(h7 h).1, (h7 h).2.step hb⟩,
        fun _ => ⟨rfl, LW, by simp⟩, fun _ _ => R, fun h => absurd (show L 6 = true from h) (by rw [n6]; decide), fun h _ => ?_⟩
      have := (h5 h).2.2
      omega
    · have d3 := hd 3 (by kernel_rfl)
      have d4 := hd 4 (by kernel_rfl)
      obtain rfl := h3 (hd 1 (by kernel_rfl))
      obtain ⟨rfl, l5, k5⟩ := h5 d3
      have R := h6 d3 hn
      obtain ⟨c0, c1, c2, c3, c4, c5, c6, c7, c8, c9, c10, c11, c12, c13, c14, c15, e0, e1, e2, e3, e4, e5, e6, e7, e8, e9, e10, e11, e12, e13, e14, e15⟩ := R.all16
      have R' := hide (put16_row (a0 := a0) (a1 := a1) (a2 := a2) (a3 := a3) (a4 := a4) (a5 := a5) (a6 := a6) (a7 := a7) (a8 := a8) (a9 := a9) (a10 := a10) (a11 := a11) (a12 := a12) (a13 := a13) (a14 := a14) (a15 := a15) R)
      have ne := h11 d3 d4
      have m1 : w.heap.size ≠ g5 := by omega
      have m2 : w.heap.size + 1 ≠ g5 := by omega
      have m3 : w.heap.size ≤ g5 := by omega
      have H1 := hide h1
      have H8 := hide h8
      have H9 := hide h9
      have H10 := hide h10
      clear hd hn R h1 h8 h9 h10 h6 h7 h5 h3 d4
      go_wp2
      exact hK _ (put16 g5 W a0 a1 a2 a3 a4 a5 a6 a7 a8 a9 a10 a11 a12 a13 a14 a15) ⟨_, s6, s12, _, s14, g5, g6, rfl, ⟨put16_below H1.out.1 m3, put16_four H1.out.2.1 m1, put16_four H1.out.2.2 m2⟩, h2, fun _ => rfl, h4, fun _ => ⟨rfl, l5, by rw [put16_size]; exact k5⟩, fun _ h => (by cases h), fun _ => ⟨d3, R'.out⟩,
        fun h => ⟨(H8.out h).1, (H8.out h).2.1, by rw [put16_size]; exact (H8.out h).2.2⟩, fun h k => put16_four (H9.out h k) (Ne.symm ne), fun h => ⟨(H10.out h).1, put16_four (H10.out h).2 (Ne.symm ne)⟩, fun _ _ => ne⟩
    · have d4 := hd 4 (by kernel_rfl)
      have d5 := hd 5 (by kernel_rfl)
      obtain rfl := h4 (hd 2 (by kernel_rfl))
      obtain ⟨rfl, l6, k6⟩ := h8 d4
      have R := h9 d4 hn
      obtain ⟨_, ⟨u0, u1, u2, u3⟩, z0, z1, z2, z3⟩ := id R
      have R' := hide (R.set4 (y := s))
      obtain ⟨d3, R5⟩ := h7 d5
      have ne := h11 d3 d4
      have m1 : w.heap.size ≠ g6 := by omega
      have m2 : w.heap.size + 1 ≠ g6 := by omega
      have m3 : w.heap.size ≤ g6 := by omega
      have H1 := hide h1
      have H5 := hide (h5 d3)
      have H7 := hide R5
      clear hd hn R h1 h8 h9 h10 h6 h7 h5 h4 h11 R5
      go_wp2
      refine hK _ _ ⟨s5, _, s12, s13, _, g5, g6, rfl, ⟨?_, ?_, ?_⟩, h2, h3, fun _ => rfl, fun _ => ⟨H5.out.1, H5.out.2.1, by simpa using H5.out.2.2⟩, fun _ h => absurd (show L 5 = false from h) (by rw [d5]; decide), fun _ => ⟨d3, ?_⟩,
        fun _ => ⟨rfl, l6, by simpa using k6⟩, fun _ h => (by cases h), fun _ => ⟨d4, R'.out⟩, fun _ _ => ne⟩
      · exact below_set (below_set (below_set (below_set H1.out.1 m3 _ _) m3 _ _) m3 _ _) m3 _ _
      · exact (((H1.out.2.1.other m1 _ _).other m1 _ _).other m1 _ _).other m1 _ _
      · exact (((H1.out.2.2.other m2 _ _).other m2 _ _).other m2 _ _).other m2 _ _
      · exact (((H7.out.other ne _ _).other ne _ _).other ne _ _).other ne _ _
  · rintro L a W hL ⟨s5, s6, s12, s13, s14, g5, g6, rfl, h1, h2, h3, h4, h5, -, h7, h8, -, h10, h11⟩
    obtain rfl := h2 (hL 0 (by decide))
    obtain rfl := h3 (hL 1 (by decide))
    obtain rfl := h4 (hL 2 (by decide))
    obtain ⟨rfl, l5, -⟩ := h5 (hL 3 (by decide))
    obtain ⟨rfl, l6, -⟩ := h8 (hL 4 (by decide))
    have HA : AR w s g5 g6 [a0, a1, a2, a3, a4, a5, a6, a7, a8, a9, a10, a11, a12, a13, a14, a15] s W := ⟨h1.1, h1.2.1, h1.2.2, (h7 (hL 5 (by decide))).2, (h10 (hL 6 (by decide))).2, l5, l6, h11 (hL 3 (by decide)) (hL 4 (by decide))⟩
    clear h1 h2 h3 h4 h5 h7 h8 h10 h11 hL H0 l5 l6
    unfold act1
    generalize hws : [a0, a1, a2, a3, a4, a5, a6, a7, a8, a9, a10, a11, a12, a13, a14, a15] = ws at *
    clear hws
    go_wp2_with fail
    go_loopw [15] (fun i wr => ∃ k : Nat, k ≤ 64 ∧ i = .int .i64 (k : Int) ∧ AR w s g5 g6 ws (stepsS ws k s) wr) (fun i _ => 64 - (intOf i).toNat)
    case atStart => exact ⟨0, by omega, rfl, HA⟩
    case round =>
      clear HA
      obtain ⟨k, hk, rfl, HA⟩ := hrel
      by_cases hlt : k < 64
      · have OK := steps_ok (w := ws) HS.out k
        have CH := hide (fun W => choose_any k (stepsS ws k s) hlt OK W)
        have NX := hide (show stepsS ws (k + 1) s = stepS ws k (stepsS ws k s) from rfl)
        generalize stepsS ws k s = y at *
        obtain ⟨y1, hy1⟩ : ∃ y1, y1 = stepsS ws (k + 1) s := ⟨_, rfl⟩
        rw [← hy1] at NX
        have HY := hide hy1.symm
        clear hy1
        have l6 := HA.2.2.2.2.2.2.1
        obtain ⟨_, ⟨u0, u1, u2, u3⟩, _⟩ := id HA.2.2.2.2.1
        have OK := hide OK
        go_wp2_with fail
        refine (CH.out _).mono ?_
        rintro e w2 ⟨rfl, hb2⟩
        have HA2 := HA.step hb2
        have VO2 := (hv.step HA.1).step hb2
        clear hb2 HA CH u0 u1 u2 u3
        obtain ⟨q, hq⟩ : ∃ q, q = k / 16 := ⟨_, rfl⟩
        obtain ⟨m, hm⟩ : ∃ m, m = k % 4 := ⟨_, rfl⟩
        have D1 : (k : Int) / 16 = (q : Int) := by omega
        have q4 : (q : Int) < 4 := by omega
        have q0 : (0 : Int) ≤ (q : Int) := by omega
        have HQ := hide (And.intro hq hm)
        have T0 := VO2.2.1 (q * 4) (by omega)
        have T1 := VO2.2.1 (q * 4 + 1) (by omega)
        have T2 := VO2.2.1 (q * 4 + 2) (by omega)
        have T3 := VO2.2.1 (q * 4 + 3) (by omega)
        clear hq hm
        go_wp2_with fail
        have CT := turn_cell w2 51 (turn (q * 4)) (turn (q * 4 + 1)) (turn (q * 4 + 2)) (turn (q * 4 + 3)) m (by have := HQ.out; omega)
        rw [turn_at (q * 4) m (by have := HQ.out; omega)] at CT
        clear T0 T1 T2 T3
        have K16 := mixK_lt hlt
        have HNX := hide (show y1 = ⟨y.d, add32 y.b (rot32 (add32 y.a (add32 (add32 (mixF k y.b y.c y.d) (ws.getD (mixK k) 0)) (sine k))) (turn (q * 4 + m))), y.b, y.c⟩ by rw [NX.out, HQ.out.1, HQ.out.2]; rfl)
        have HT := turn_lt (q * 4 + m) (by have := HQ.out; omega)
        have X := hide (fun W (h : Row g5 ws W) => h.2.2.1 (mixK k) K16)
        have SI := hide (fun W (h : VO W) => h.2.2 k hlt)
        clear NX
        generalize turn (q * 4 + m) = n at *
        generalize mixF k y.b y.c y.d = f at *
        generalize mixK k = kk at *
        generalize ws.getD kk 0 = x at *
        generalize sine k = sn at *
        have W1 := wrap_add f x
        have W2 := mod_add f x
        have W3 := wrap_add (add32 f x) sn
        have W4 := mod_add (add32 f x) sn
        have STP := hide (fun W => step_any y (add32 (add32 f x) sn) n OK.out HT.1 HT.2 W)
        generalize add32 (add32 f x) sn = p2 at *
        generalize add32 f x = p1 at *
        have D2 : (k : Int).tmod 4 = (m : Int) := by rw [Int.tmod_eq_emod_of_nonneg (by omega)]; have := HQ.out; omega
        have m4 : (m : Int) < 4 := by have := HQ.out; omega
        have kk16 : (kk : Int) < 16 := by omega
        have k64 : (k : Int) < 64 := by omega
        refine region_tail (C := fun W => AR w s g5 g6 ws y W ∧ VO W ∧ W.cell? ⟨w2.heap.size, m, none⟩ = some (.int .i64 (n : Int))) 14 (by kernel_rfl) (by kernel_rfl) ⟨(HA2.step (below_alloc _ _)).step (below_drew _), (VO2.step (below_alloc _ _)).step (below_drew _), CT⟩ fun W ⟨HA3, VO3, CM⟩ => ?_
        clear CT HA2 VO2
        have CX := X.out W HA3.2.2.2.1
        have CS := SI.out W VO3
        obtain ⟨_, ⟨u0, u1, u2, u3⟩, _⟩ := id HA3.2.2.2.2.1
        simp only [List.take_succ_cons, List.take_zero, List.drop_succ_cons, List.drop_zero]
        iterate 14 still_step
        refine wpStill_nil ?_
        clear CX CS CM u0 u1 u2 u3 VO3 X SI
        go_wp2_with fail
        refine (STP.out _).mono ?_
        rintro e w3 ⟨rfl, hb3⟩
        have HA4 := HA3.step hb3
        clear HA3 hb3
        obtain ⟨lg, ⟨u0, u1, u2, u3⟩, z0, z1, z2, z3⟩ := id HA4.2.2.2.2.1
        go_wp2
        go_roundw
        case rel =>
          obtain ⟨h1, h2, h3, h4, h5, h6, h7, h8⟩ := HA4
          have n1 : w.heap.size ≠ g6 := by omega
          have n2 : w.heap.size + 1 ≠ g6 := by omega
          have m3 : w.heap.size ≤ g6 := by omega
          refine ⟨k + 1, by omega, by go_num, ?_, ?_, ?_, ?_, ?_, h6, h7, h8⟩
          · exact below_set (below_set (below_set (below_set h1 m3 _ _) m3 _ _) m3 _ _) m3 _ _
          · exact (((h2.other n1 _ _).other n1 _ _).other n1 _ _).other n1 _ _
          · exact (((h3.other n2 _ _).other n2 _ _).other n2 _ _).other n2 _ _
          · exact (((h4.other h8 _ _).other h8 _ _).other h8 _ _).other h8 _ _
          · rw [HY.out, HNX.out]
            exact h5.set4 (y := ⟨y.d, add32 y.b (rot32 (add32 y.a p2) n), y.b, y.c⟩)
        case measure => simp [intOf] <;> omega
      · have H64 : k = 64 := by omega
        rw [show stepsS ws 64 s = stepsS ws k s by rw [H64]] at HB
        clear H64
        generalize stepsS ws k s = y at *
        go_wp2_with fail
        clear HW hv
        go_loopw [44] (fun i wr => ∃ k : Nat, k ≤ 4 ∧ i = .int .i64 (k : Int) ∧ AR w (mixS s y k) g5 g6 ws y wr) (fun i _ => 4 - (intOf i).toNat)
        case atStart => exact ⟨0, by omega, rfl, HA⟩
        case round =>
          clear HA
          obtain ⟨k, hk, rfl, HA⟩ := hrel
          obtain rfl | rfl | rfl | rfl | rfl : k = 0 ∨ k = 1 ∨ k = 2 ∨ k = 3 ∨ k = 4 := by omega
          · have W1 := wrap_add s.a y.a
            have W2 := mod_add s.a y.a
            go_wp2_with fail
            refine region_tail (C := AR w (mixS s y 0) g5 g6 ws y) 8 (by kernel_rfl) (by kernel_rfl) (HA.step (below_drew _)) fun W HA3 => ?_
            clear HA
            obtain ⟨_, ⟨_, ⟨u0, u1, u2, u3⟩, z0, z1, z2, z3⟩, _, _, ⟨_, ⟨v0, v1, v2, v3⟩, _⟩, _⟩ := id HA3
            simp only [mixS] at u0 u1 u2 u3
            simp only [List.take_succ_cons, List.take_zero, List.drop_succ_cons, List.drop_zero]
            iterate 8 still_step
            refine wpStill_nil ?_
            go_wp2
            go_roundw
            case rel => exact ⟨1, by omega, by go_num, HA3.put _ _ fun h => h.set0⟩
            case measure => simp [intOf] <;> omega
          · have W1 := wrap_add s.b y.b
            have W2 := mod_add s.b y.b
            go_wp2_with fail
            refine region_tail (C := AR w (mixS s y 1) g5 g6 ws y) 8 (by kernel_rfl) (by kernel_rfl) (HA.step (below_drew _)) fun W HA3 => ?_
            clear HA
            obtain ⟨_, ⟨_, ⟨u0, u1, u2, u3⟩, z0, z1, z2, z3⟩, _, _, ⟨_, ⟨v0, v1, v2, v3⟩, _⟩, _⟩ := id HA3
            simp only [mixS] at u0 u1 u2 u3
            simp only [List.take_succ_cons, List.take_zero, List.drop_succ_cons, List.drop_zero]
            iterate 8 still_step
            refine wpStill_nil ?_
            go_wp2
            go_roundw
            case rel => exact ⟨2, by omega, by go_num, HA3.put _ _ fun h => h.set1⟩
            case measure => simp [intOf] <;> omega
          · have W1 := wrap_add s.c y.c
            have W2 := mod_add s.c y.c
            go_wp2_with fail
            refine region_tail (C := AR w (mixS s y 2) g5 g6 ws y) 8 (by kernel_rfl) (by kernel_rfl) (HA.step (below_drew _)) fun W HA3 => ?_
            clear HA
            obtain ⟨_, ⟨_, ⟨u0, u1, u2, u3⟩, z0, z1, z2, z3⟩, _, _, ⟨_, ⟨v0, v1, v2, v3⟩, _⟩, _⟩ := id HA3
            simp only [mixS] at u0 u1 u2 u3
            simp only [List.take_succ_cons, List.take_zero, List.drop_succ_cons, List.drop_zero]
            iterate 8 still_step
            refine wpStill_nil ?_
            go_wp2
            go_roundw
            case rel => exact ⟨3, by omega, by go_num, HA3.put _ _ fun h => h.set2⟩
            case measure => simp [intOf] <;> omega
          · have W1 := wrap_add s.d y.d
            have W2 := mod_add s.d y.d
            go_wp2_with fail
            refine region_tail (C := AR w (mixS s y 3) g5 g6 ws y) 8 (by kernel_rfl) (by kernel_rfl) (HA.step (below_drew _)) fun W HA3 => ?_
            clear HA
            obtain ⟨_, ⟨_, ⟨u0, u1, u2, u3⟩, z0, z1, z2, z3⟩, _, _, ⟨_, ⟨v0, v1, v2, v3⟩, _⟩, _⟩ := id HA3
            simp only [mixS] at u0 u1 u2 u3
            simp only [List.take_succ_cons, List.take_zero, List.drop_succ_cons, List.drop_zero]
            iterate 8 still_step
            refine wpStill_nil ?_
            go_wp2
            go_roundw
            case rel => exact ⟨4, by omega, by go_num, HA3.put _ _ fun h => h.set3⟩
            case measure => simp [intOf] <;> omega
          · obtain ⟨h1, ⟨_, ⟨u0, u1, u2, u3⟩, _⟩, ⟨lz, ⟨v0, v1, v2, v3⟩, z0, z1, z2, z3⟩, _⟩ := HA
            rw [show mixS s y 4 = res by rw [HB.out]; rfl] at u0 u1 u2 u3
            clear HB HS
            go_wp2
            refine bodyPost_ret (v := V4 res) ?_ rfl ⟨rfl, ?_⟩
            · simp [results, Tryd.results18, go_sem, v0, v1, v2, v3]
            · exact below_set (below_set (below_set (below_set h1 (by omega) _ _) (by omega) _ _) (by omega) _ _) (by omega) _ _
end Go.Proofs.YtiickcdkibcdpaaDoor
