/-
  Contracts of the steps of MD5: RotateLeft32, choose, step and the document's own step. Conditions: words of 32 bits; a step's number is below 64.
-/
import Derived.Test.YtiickcdkibcdpaaDoorDigW
import Derived.StillTailTactics
namespace Go.Proofs.YtiickcdkibcdpaaDoor
open Go.RowKit Go.Joins

theorem tup2 {x x' y y' : Value} (h : x = x') (k : y = y') : Value.tuple #[x, y] = .tuple #[x', y'] := by rw [h, k]
theorem u_eq {a : Int} {n : Nat} (h : a = (n : Int)) : Value.int .u32 a = U n := by rw [h]
theorem i_eq {a : Int} {n : Nat} (h : a = (n : Int)) : Value.int .i64 a = Value.int .i64 (n : Int) := by rw [h]
theorem f0 {i b c d : Nat} (h : i / 16 = 0) (hb : b < 4294967296) (hc : c < 4294967296) (hd : d < 4294967296) :
    bits .or .u32 (bits .and .u32 (b : Int) (c : Int)) (bits .and .u32 (bits .xor .u32 IntKind.u32.max (b : Int)) (d : Int)) = (mixF i b c d : Nat) := by
  rw [max_u32 hb, u32_and_nat b c hb hc, u32_and_nat (b ^^^ 4294967295) d (not_lt hb) hd, u32_or_nat (b &&& c) ((b ^^^ 4294967295) &&& d) (and_lt _ hb) (and_lt _ (not_lt hb))]
  unfold mixF
  rw [if_pos h]; rfl
theorem f1 {i b c d : Nat} (h : i / 16 = 1) (hb : b < 4294967296) (hc : c < 4294967296) (hd : d < 4294967296) :
    bits .or .u32 (bits .and .u32 (d : Int) (b : Int)) (bits .and .u32 (bits .xor .u32 IntKind.u32.max (d : Int)) (c : Int)) = (mixF i b c d : Nat) := by
  rw [max_u32 hd, u32_and_nat d b hd hb, u32_and_nat (d ^^^ 4294967295) c (not_lt hd) hc, u32_or_nat (d &&& b) ((d ^^^ 4294967295) &&& c) (and_lt _ hd) (and_lt _ (not_lt hd))]
  unfold mixF
  rw [h]; rfl
theorem f2 {i b c d : Nat} (h : i / 16 = 2) (hb : b < 4294967296) (hc : c < 4294967296) (hd : d < 4294967296) :
    bits .xor .u32 (bits .xor .u32 (b : Int) (c : Int)) (d : Int) = (mixF i b c d : Nat) := by
  rw [u32_xor_nat b c hb hc, u32_xor_nat (b ^^^ c) d (xor_lt hb hc) hd]
  unfold mixF
  rw [h]; rfl
theorem f3 {i b c d : Nat} (h0 : ¬ i / 16 = 0) (h1 : ¬ i / 16 = 1) (h2 : ¬ i / 16 = 2) (hb : b < 4294967296) (hc : c < 4294967296) (hd : d < 4294967296) :
    bits .xor .u32 (c : Int) (bits .or .u32 (b : Int) (bits .xor .u32 IntKind.u32.max (d : Int))) = (mixF i b c d : Nat) := by
  rw [max_u32 hd, u32_or_nat b (d ^^^ 4294967295) hb (not_lt hd), u32_xor_nat c (b ||| (d ^^^ 4294967295)) hc (or_lt hb (not_lt hd))]
  unfold mixF
  rw [if_neg h0, if_neg h1, if_neg h2]; rfl
theorem k0 {i : Nat} (h : i / 16 = 0) : (i : Int) = (mixK i : Nat) := by unfold mixK; rw [if_pos h]
theorem k1 {i : Nat} (h : i / 16 = 1) : (5 * (i : Int) + 1) % 16 = (mixK i : Nat) := by unfold mixK; rw [if_neg (by omega), if_pos h]; omega
theorem k2 {i : Nat} (h : i / 16 = 2) : (3 * (i : Int) + 5) % 16 = (mixK i : Nat) := by unfold mixK; rw [if_neg (by omega), if_neg (by omega), if_pos h]; omega
theorem k3 {i : Nat} (h0 : ¬ i / 16 = 0) (h1 : ¬ i / 16 = 1) (h2 : ¬ i / 16 = 2) : 7 * (i : Int) % 16 = (mixK i : Nat) := by unfold mixK; rw [if_neg h0, if_neg h1, if_neg h2]; omega
theorem rot_eq {x n : Nat} (hx : x < 4294967296) : bits .or .u32 ((x : Int) * 2 ^ n % 4294967296) ((x : Int) / 2 ^ (32 - n)) = (rot32 x n : Nat) := by
  have e1 : (x : Int) * 2 ^ n % 4294967296 = ((x * 2 ^ n % 4294967296 : Nat) : Int) := by
    rw [Int.natCast_emod, Int.natCast_mul, Int.natCast_pow]; rfl
  have e2 : (x : Int) / 2 ^ (32 - n) = ((x / 2 ^ (32 - n) : Nat) : Int) := by
    rw [Int.natCast_ediv, Int.natCast_pow]; rfl
  rw [e1, e2, u32_or_nat _ _ (by omega) (Nat.lt_of_le_of_lt (Nat.div_le_self _ _) hx)]; rfl
set_option maxRecDepth 100000 in
theorem rot_any (x n : Nat) (hx : x < 4294967296) (hn : n < 32) (h0 : 0 < n) (w : World) : Calls Tryd.prog 34 #[U x, .int .i64 (n : Int)] w (Same (U (rot32 x n)) w) := by
  have A : bits .and .u64 (n : Int) 31 = (n : Int) := by
    rw [show (31 : Int) = ((31 : Nat) : Int) from rfl, u64_and_nat n 31 (by omega) (by omega), show (31 : Nat) = 2 ^ 5 - 1 from rfl, Nat.and_two_pow_sub_one_eq_mod, Nat.mod_eq_of_lt hn]
  go_enter Tryd.func34, Tryd.ntmps34
  go_wp2
  go_ret
  exact ⟨congrArg Ending.returned (u_eq (rot_eq hx)), rfl⟩
set_option maxRecDepth 100000 in
theorem rstep_any (i b c d : Nat) (hi : i < 64) (hb : b < 4294967296) (hc : c < 4294967296) (hd : d < 4294967296) (w : World) :
    Calls Tryd.prog 21 #[.int .i64 (i : Int), U b, U c, U d] w (Same (.tuple #[U (mixF i b c d), .int .i64 (mixK i : Nat)]) w) := by
  have H : (i / 16 = 0 ∧ (i : Int) / 16 = 0) ∨ (i / 16 = 1 ∧ (i : Int) / 16 = 1) ∨ (i / 16 = 2 ∧ (i : Int) / 16 = 2) ∨ (i / 16 = 3 ∧ (i : Int) / 16 = 3) := by omega
  go_enter Tryd.func21, Tryd.ntmps21
  rcases H with ⟨h, h'⟩ | ⟨h, h'⟩ | ⟨h, h'⟩ | ⟨h, h'⟩
  all_goals go_wp2
  all_goals go_ret2
  · exact ⟨congrArg Ending.returned (tup2 (u_eq (f0 (by omega) hb hc hd)) (i_eq (k0 (by omega)))), rfl⟩
  · exact ⟨congrArg Ending.returned (tup2 (u_eq (f1 (by omega) hb hc hd)) (i_eq (k1 (by omega)))), rfl⟩
  · exact ⟨congrArg Ending.returned (tup2 (u_eq (f2 (by omega) hb hc hd)) (i_eq (k2 (by omega)))), rfl⟩
  · exact ⟨congrArg Ending.returned (tup2 (u_eq (f3 (by omega) (by omega) (by omega) hb hc hd)) (i_eq (k3 (by omega) (by omega) (by omega)))), rfl⟩

section
variable {P : Program} {id : Nat} {Q : Exit → Act → World → Prop} {a : Act} {w : World} {l : List Oper} {C : World → Prop}
/-- a region that only reads, in a world of which no more is known than C -/
theorem region_reads (hm : P.follows .mixedOrders = true) (hB : Region.lexB .any l.toArray = true) (hC : C { w with drawn := w.drawn + 1 })
    (h : ∀ W, C W → wpStill P l.toArray W (fun a' => Q .normal a' W) l a) : (Code.region id l.toArray true).wp P Q a w := wp_region_still_lit hm hB (h _ hC)
/-- the same, with a tail that comes last in every order -/
theorem region_tail (n : Nat) (hm : P.follows .mixedOrders = true) (hB : Region.lexTailB .any l.toArray n = true) (hC : C { w with drawn := w.drawn + 1 })
    (h : ∀ W, C W → wpStill P l.toArray W (fun a' => wpList P l.toArray Q (l.drop n) a' W) (l.take n) a) : (Code.region id l.toArray true).wp P Q a w := wp_region_still_tail n hm hB (h _ hC)
end
theorem keep_cell {W w2 : World} {p : Go.Addr} {v : Value} (hb : Below W.heap.size W w2) (h : W.cell? p = some v) : w2.cell? p = some v := by
  rw [hb.cell (World.block_lt_of_cell? W p h), h]
theorem keep_free {W w2 : World} {p : Go.Addr} (hb : Below W.heap.size W w2) (hl : p.block < W.heap.size) (h : W.frozen? p = false) : w2.frozen? p = false := by
  rw [hb.frozen hl, h]
theorem below_alloc (W : World) (o : Obj) : Below W.heap.size W (W.alloc o) := (Below.refl _ _).alloc (Nat.le_refl _) _
theorem below_drew (W : World) : Below W.heap.size W W.drew := (Below.refl _ _).drew
theorem below_drewN (W : World) (n : Nat) : Below W.heap.size W (W.drewN n) := ⟨rfl, rfl, rfl, Nat.le_refl _, fun _ _ => rfl⟩
theorem chain {w v v' : World} (h : Below w.heap.size w v) (k : Below v.heap.size v v') : Below w.heap.size w v' := h.trans (k.mono h.size)
/-- four words in a block -/
def Four (g : Nat) (x : S4) (W : World) : Prop := g < W.heap.size ∧ (W.cell? ⟨g, 0, none⟩ = some (U x.a) ∧ W.cell? ⟨g, 1, none⟩ = some (U x.b) ∧ W.cell? ⟨g, 2, none⟩ = some (U x.c) ∧ W.cell? ⟨g, 3, none⟩ = some (U x.d)) ∧
  W.frozen? ⟨g, 0, none⟩ = false ∧ W.frozen? ⟨g, 1, none⟩ = false ∧ W.frozen? ⟨g, 2, none⟩ = false ∧ W.frozen? ⟨g, 3, none⟩ = false
theorem Four.step {g : Nat} {x : S4} {W w2 : World} (h : Four g x W) (hb : Below W.heap.size W w2) : Four g x w2 :=
  ⟨Nat.lt_of_lt_of_le h.1 hb.size, ⟨keep_cell hb h.2.1.1, keep_cell hb h.2.1.2.1, keep_cell hb h.2.1.2.2.1, keep_cell hb h.2.1.2.2.2⟩, keep_free hb h.1 h.2.2.1, keep_free hb h.1 h.2.2.2.1, keep_free hb h.1 h.2.2.2.2.1, keep_free hb h.1 h.2.2.2.2.2⟩
theorem four_new (V : World) (x : S4) (t : TypeId) : Four V.heap.size x (V.alloc (.cells #[U x.a, U x.b, U x.c, U x.d] t)) := by
  refine ⟨by simp, ⟨?_, ?_, ?_, ?_⟩, ?_, ?_, ?_, ?_⟩ <;> simp [go_sem]
theorem Four.all {g : Nat} {x : S4} {W : World} (h : Four g x W) : g < W.heap.size ∧ (W.cell? ⟨g, 0, none⟩ = some (U x.a) ∧ W.cell? ⟨g, 1, none⟩ = some (U x.b) ∧ W.cell? ⟨g, 2, none⟩ = some (U x.c) ∧ W.cell? ⟨g, 3, none⟩ = some (U x.d)) ∧
  W.frozen? ⟨g, 0, none⟩ = false ∧ W.frozen? ⟨g, 1, none⟩ = false ∧ W.frozen? ⟨g, 2, none⟩ = false ∧ W.frozen? ⟨g, 3, none⟩ = false := h

/-- what a call of a sums' method has: its own copy, nothing old changed -/
def C1 (w : World) (x : S4) (W : World) : Prop := Below w.heap.size w W ∧ Four w.heap.size x W
theorem c1_new (w : World) (x : S4) (t : TypeId) : C1 w x (w.alloc (.cells #[U x.a, U x.b, U x.c, U x.d] t)).drew :=
  ⟨(below_alloc _ _).drew, (four_new w x t).step (below_drew _)⟩
set_option maxRecDepth 100000 in
theorem choose_any (i : Nat) (s : S4) (hi : i < 64) (hs : Ok4 s) (w : World) :
    Calls Tryd.prog 26 #[V4 s, .int .i64 (i : Int)] w (Gives (.tuple #[U (mixF i s.b s.c s.d), .int .i64 (mixK i : Nat)]) w) := by
  have H0 := c1_new w s 36
  obtain ⟨a, b, c, d⟩ := s
  obtain ⟨_, hb, hc, hd⟩ := hs
  have H : (i / 16 = 0 ∧ (i : Int) / 16 = 0) ∨ (i / 16 = 1 ∧ (i : Int) / 16 = 1) ∨ (i / 16 = 2 ∧ (i : Int) / 16 = 2) ∨ (i / 16 = 3 ∧ (i : Int) / 16 = 3) := by omega
  go_enter Tryd.func26, Tryd.ntmps26
  go_wp2_with fail
  refine region_reads (C := C1 w ⟨a, b, c, d⟩) (by kernel_rfl) (by kernel_rfl) H0 fun W ⟨HB, _, ⟨_, u1, u2, u3⟩, _⟩ => ?_
  clear H0
  iterate 9 still_step
  refine wpStill_nil ?_
  rcases H with ⟨h, h'⟩ | ⟨h, h'⟩ | ⟨h, h'⟩ | ⟨h, h'⟩
  all_goals
    go_wp2
    go_ret2
  · exact ⟨congrArg Ending.returned (tup2 (u_eq (f0 (by omega) hb hc hd)) (i_eq (k0 (by omega)))), HB⟩
  · exact ⟨congrArg Ending.returned (tup2 (u_eq (f1 (by omega) hb hc hd)) (i_eq (k1 (by omega)))), HB⟩
  · exact ⟨congrArg Ending.returned (tup2 (u_eq (f2 (by omega) hb hc hd)) (i_eq (k2 (by omega)))), HB⟩
  · exact ⟨congrArg Ending.returned (tup2 (u_eq (f3 (by omega) (by omega) (by omega) hb hc hd)) (i_eq (k3 (by omega) (by omega) (by omega)))), HB⟩

theorem wrap_add (x y : Nat) : IntKind.u32.wrap ((x : Int) + (y : Int)) = (add32 x y : Nat) := by
  rw [IntKind.wrap_u32]; unfold add32; omega
theorem mod_add (x y : Nat) : ((x : Int) + (y : Int)) % 4294967296 = (add32 x y : Nat) := by
  unfold add32; omega
/-- and the place of its answer behind it -/
def C2 (w : World) (x : S4) (W : World) : Prop := Below w.heap.size w W ∧ Four w.heap.size x W ∧ Four (w.heap.size + 1) ⟨0, 0, 0, 0⟩ W
theorem c2_new (w : World) (x : S4) (t t' : TypeId) : C2 w x ((w.alloc (.cells #[U x.a, U x.b, U x.c, U x.d] t)).alloc (.cells #[U 0, U 0, U 0, U 0] t')).drew := by
  refine ⟨((below_alloc _ _).alloc (by simp) _).drew, ((four_new w x t).step (below_alloc _ _)).step (below_drew _), ?_⟩
  have := (four_new (w.alloc (.cells #[U x.a, U x.b, U x.c, U x.d] t)) ⟨0, 0, 0, 0⟩ t').step (below_drew _)
  rwa [World.size_alloc] at this
set_option maxRecDepth 100000 in
theorem step_any (s : S4) (x n : Nat) (hs : Ok4 s) (hn : n < 32) (h0 : 0 < n) (w : World) :
    Calls Tryd.prog 27 #[V4 s, U x, .int .i64 (n : Int)] w (Gives (V4 ⟨s.d, add32 s.b (rot32 (add32 s.a x) n), s.b, s.c⟩) w) := by
  have H0 := c2_new w s 36 36
  obtain ⟨a, b, c, d⟩ := s
  obtain ⟨_, hb, hc, hd⟩ := hs
  have R := hide (fun W => rot_any (add32 a x) n (add_lt _ _) hn h0 W)
  have W1 := wrap_add a x
  have W2 := mod_add a x
  have W3 := wrap_add b (rot32 (add32 a x) n)
  have W4 := mod_add b (rot32 (add32 a x) n)
  generalize rot32 (add32 a x) n = r at *
  generalize add32 b r = q at *
  generalize add32 a x = p at *
  go_enter Tryd.func27, Tryd.ntmps27
  go_wp2_with fail
  refine region_tail (C := C2 w ⟨a, b, c, d⟩) 16 (by kernel_rfl) (by kernel_rfl) H0 fun W ⟨HB, ⟨_, ⟨u0, u1, u2, u3⟩, _⟩, ⟨l1, ⟨v0, v1, v2, v3⟩, z0, z1, z2, z3⟩⟩ => ?_
  clear H0
  simp only [List.take_succ_cons, List.take_zero, List.drop_succ_cons, List.drop_zero]
  iterate 9 still_step
  still_call (R.out _).mono fun e w' ⟨he, hw⟩ => ⟨he, hw.symm⟩
  iterate 6 still_step
  refine wpStill_nil ?_
  go_wp2
  refine bodyPost_ret (v := V4 ⟨d, q, b, c⟩) ?_ rfl ⟨rfl, ?_⟩
  · simp [results, Tryd.results27, go_sem, v0, v1, v2, v3]
  · have hzB := HB.size
    repeat' (first | (with_reducible exact HB) | (with_reducible apply Below.setCell))
    all_goals (dsimp only; omega)
end Go.Proofs.YtiickcdkibcdpaaDoor
