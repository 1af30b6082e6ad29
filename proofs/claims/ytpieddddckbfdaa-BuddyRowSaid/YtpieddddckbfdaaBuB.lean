/-
  Contracts of halves and apart: what each returns for every value of the types, and that no memory that existed is changed. Condition of each: the words are words of 64 bits, an int is an int of 64 bits (every value of the types is such).
-/
import Derived.Test.YtpieddddckbfdaaBuA
namespace Go.Proofs.Ytpieddddckbfdaa
open Go.RowKit Go.Joins

/-- two boxes of a call -/
def HH (w : World) (x y : Bk) (W : World) : Prop := Below w.heap.size w W ∧ Box w.heap.size x W ∧ Box (w.heap.size + 1) y W
theorem HH.step {w : World} {x y : Bk} {W w2 : World} (h : HH w x y W) (hb : Below W.heap.size W w2) : HH w x y w2 := ⟨h.1.trans (hb.mono h.1.size), h.2.1.step hb, h.2.2.step hb⟩
theorem hh_new (w : World) (x y : Bk) (t : TypeId) : HH w x y ((w.alloc (.cells #[.int .u64 (hi x.1 : Nat), .int .u64 (lo x.1 : Nat), .int .i64 x.2] t)).alloc (.cells #[.int .u64 (hi y.1 : Nat), .int .u64 (lo y.1 : Nat), .int .i64 y.2] t)) := by
  have h := box_new w x t
  generalize hV : w.alloc (.cells #[.int .u64 (hi x.1 : Nat), .int .u64 (lo x.1 : Nat), .int .i64 x.2] t) = V at h
  have hb : Below w.heap.size w V := hV ▸ below_alloc _ _
  have hs : V.heap.size = w.heap.size + 1 := by rw [← hV]; simp
  have h2 := box_new V y t
  rw [hs] at h2
  exact ⟨chain hb (below_alloc _ _), h.step (below_alloc _ _), h2⟩
theorem HH.all {w : World} {x y : Bk} {W : World} (h : HH w x y W) : w.heap.size + 1 < W.heap.size ∧ (W.cell? ⟨w.heap.size, 0, none⟩ = some (.int .u64 (hi x.1 : Nat)) ∧ W.cell? ⟨w.heap.size, 1, none⟩ = some (.int .u64 (lo x.1 : Nat)) ∧ W.cell? ⟨w.heap.size, 2, none⟩ = some (.int .i64 x.2)) ∧
    (W.cell? ⟨w.heap.size + 1, 0, none⟩ = some (.int .u64 (hi y.1 : Nat)) ∧ W.cell? ⟨w.heap.size + 1, 1, none⟩ = some (.int .u64 (lo y.1 : Nat)) ∧ W.cell? ⟨w.heap.size + 1, 2, none⟩ = some (.int .i64 y.2)) := ⟨h.2.2.1, h.2.1.2.1, h.2.2.2.1⟩
set_option maxHeartbeats 400000 in
theorem sib_any' {x y p q : Bk} {a b : Bool} (w : World) (hp : ∀ W, Calls Try.prog 62 #[Bv x] W (Gives (.tuple #[Bv p, .bool a]) W)) (hq : ∀ W, Calls Try.prog 62 #[Bv y] W (Gives (.tuple #[Bv q, .bool b]) W)) :
    Calls Try.prog 53 #[Bv x, Bv y] w (Gives (.bool (a && b && decide (p = q))) w) := by
  have PX := hide hp
  have PY := hide hq
  clear hp hq
  have EQ := fun W => eq_run p q W
  have EH := hide EQ
  clear EQ
  have H0 := hh_new w x y 26
  go_enter Try.func53, Try.ntmps53
  go_wp2_with fail
  refine (PX.out _).mono ?_
  rintro e w1 ⟨rfl, hb1⟩
  have H1 := H0.step hb1
  clear hb1 H0
  obtain ⟨z, ⟨x1, x2, x3⟩, ⟨y1, y2, y3⟩⟩ := H1.all
  go_wp2_with fail
  clear x1 x2 x3 y1 y2 y3
  have P0 := box_new w1 p 26
  have HB0 := chain H1.1 (below_alloc w1 (.cells #[.int .u64 (hi p.1 : Nat), .int .u64 (lo p.1 : Nat), .int .i64 p.2] 26))
  clear H1 z
  refine (PY.out _).mono ?_
  rintro e w2 ⟨rfl, hb2⟩
  have P1 := P0.step hb2
  have HB := chain HB0 hb2
  clear P0 HB0 hb2
  obtain ⟨z, ⟨p1, p2, p3⟩, _⟩ := P1
  generalize w1.heap.size = g at *
  cases a with
  | false =>
    go_wp2
    go_ret
    refine ⟨rfl, ?_⟩
    have hzB := HB.size
    repeat' (first | (with_reducible exact HB) | (with_reducible apply Below.drew) | (with_reducible apply Below.alloc) | (with_reducible apply Below.setCell))
    all_goals first | omega | (dsimp only; omega) | ((try simp); omega)
  | true =>
    cases b with
    | false =>
      go_wp2
      go_ret
      refine ⟨rfl, ?_⟩
      have hzB := HB.size
      repeat' (first | (with_reducible exact HB) | (with_reducible apply Below.drew) | (with_reducible apply Below.alloc) | (with_reducible apply Below.setCell))
      all_goals first | omega | (dsimp only; omega) | ((try simp); omega)
    | true =>
      have EQ := EH.out
      generalize decide (p = q) = d at *
      go_wp2
      go_ret
      refine ⟨rfl, ?_⟩
      have hzB := HB.size
      repeat' (first | (with_reducible exact HB) | (with_reducible apply Below.drew) | (with_reducible apply Below.alloc) | (with_reducible apply Below.setCell))
      all_goals first | omega | (dsimp only; omega) | ((try simp); omega)
theorem sib_any {x y : Bk} (hx : FitB x) (hy : FitB y) (w : World) : Calls Try.prog 53 #[Bv x, Bv y] w (Gives (.bool (sibB x y)) w) :=
  sib_any' w (fun W => parent_any hx W) (fun W => parent_any hy W)

set_option maxHeartbeats 400000 in
theorem apart_any {x y : Bk} (hx : FitB x) (hy : FitB y) (w : World) : Calls Try.prog 25 #[Bv x, Bv y] w (Gives (.bool (apartB x y)) w) := by
  have CM := hide (fun W => comp_any x y W)
  have L := hide (cmp_lt x.1 y.1)
  have ME := hide (fun W => meets_any hx.1 hy.1 x.2 y.2 W)
  have SI := hide (fun W => sib_any hx hy W)
  have H0 := hh_new w x y 26
  have R := hide (show apartB x y = (decide (x.1 < y.1) && (!meetsS x.1 x.2 y.1 y.2 && !sibB x y)) from rfl)
  generalize meetsS x.1 x.2 y.1 y.2 = m at *
  generalize sibB x y = s at *
  generalize apartB x y = r at *
  by_cases P : x.1 < y.1
  · have P0 : cmpS x.1 y.1 < 0 := by have := L.out; rw [decide_eq_true P] at this; simpa using this
    rw [decide_eq_true P, Bool.true_and] at R
    clear P
    go_enter Try.func25, Try.ntmps25
    obtain ⟨z, ⟨x1, x2, x3⟩, ⟨y1, y2, y3⟩⟩ := H0.all
    go_wp2_with fail
    clear z x1 x2 x3 y1 y2 y3
    refine (CM.out _).mono ?_
    rintro e w1 ⟨rfl, hb1⟩
    have H1 := H0.step hb1
    clear hb1 H0
    obtain ⟨z, ⟨x1, x2, x3⟩, ⟨y1, y2, y3⟩⟩ := H1.all
    go_wp2_with fail
    clear z x1 x2 x3 y1 y2 y3
    refine (ME.out _).mono ?_
    rintro e w2 ⟨rfl, hb2⟩
    have H2 := H1.step hb2
    clear hb2 H1
    cases m with
    | true =>
      go_wp2
      go_ret
      exact ⟨by rw [R.out]; rfl, H2.1⟩
    | false =>
      obtain ⟨z, ⟨x1, x2, x3⟩, ⟨y1, y2, y3⟩⟩ := H2.all
      go_wp2_with fail
      clear z x1 x2 x3 y1 y2 y3
      refine (SI.out _).mono ?_
      rintro e w3 ⟨rfl, hb3⟩
      have H3 := H2.step hb3
      clear hb3 H2
      go_wp2
      go_ret
      exact ⟨by rw [R.out]; rfl, H3.1⟩
  · have P0 : ¬ cmpS x.1 y.1 < 0 := by have := L.out; rw [decide_eq_false P] at this; simpa using this
    rw [decide_eq_false P, Bool.false_and] at R
    clear P
    go_enter Try.func25, Try.ntmps25
    obtain ⟨z, ⟨x1, x2, x3⟩, ⟨y1, y2, y3⟩⟩ := H0.all
    go_wp2_with fail
    clear z x1 x2 x3 y1 y2 y3
    refine (CM.out _).mono ?_
    rintro e w1 ⟨rfl, hb1⟩
    have H1 := H0.step hb1
    clear hb1 H0
    go_wp2
    go_ret
    exact ⟨by rw [R.out]; rfl, H1.1⟩
end Go.Proofs.Ytpieddddckbfdaa
