/-
  Contract of the document's own Halves: it returns what the program's returns. Condition: the words are words of 64 bits, an int is an int of 64 bits (every value of the types is such).
-/
import Derived.Test.YtlbconflbaohfaaAddrX5
import Derived.Deep.RegionWith
import Derived.Deep.RegionHeld3
namespace Go.Proofs.Ytlbconflbaohfaa
open Go.RowKit

theorem with_half {p n : Nat} (h : clipS p n = p) (hn : n < 128) : withS p n = p + 2 ^ (127 - n) := by
  have b := bit_clip p n hn
  rw [h] at b
  unfold withS
  rw [b, if_neg (by omega)]
/-- three cells that may be written -/
def Free3 (g : Nat) (W : World) : Prop := (W.frozen? ⟨g, 0, none⟩ = false ∧ W.frozen? ⟨g, 1, none⟩ = false ∧ W.frozen? ⟨g, 2, none⟩ = false) ∧ (∃ x y z, W.cell? ⟨g, 0, none⟩ = some x ∧ W.cell? ⟨g, 1, none⟩ = some y ∧ W.cell? ⟨g, 2, none⟩ = some z) ∧ g < W.heap.size
theorem Three.free {g : Nat} {x y z : Value} {W : World} (h : Three g x y z W) : Free3 g W := by
  obtain ⟨a, b, c, d, e, f, l⟩ := h
  exact ⟨⟨d, e, f⟩, ⟨x, y, z, a, b, c⟩, l⟩
theorem Free3.step {g : Nat} {W w2 : World} (h : Free3 g W) (hb : Below W.heap.size W w2) : Free3 g w2 := by
  obtain ⟨⟨d, e, f⟩, ⟨x, y, z, a, b, c⟩, l⟩ := h
  have s := hb.size
  exact ⟨⟨free_keep hb l d, free_keep hb l e, free_keep hb l f⟩, ⟨x, y, z, cell_keep hb a, cell_keep hb b, cell_keep hb c⟩, by omega⟩
/-- the blocks of the call: the prefix, the two results' places -/
def HR (w : World) (p : Nat) (n : Int) (W : World) : Prop := Below w.heap.size w W ∧
  Three w.heap.size (.int .u64 (hi p : Nat)) (.int .u64 (lo p : Nat)) (.int .i64 n) W ∧ Three (w.heap.size + 1) (.int .u64 0) (.int .u64 0) (.int .i64 0) W ∧ Three (w.heap.size + 1 + 1) (.int .u64 0) (.int .u64 0) (.int .i64 0) W
theorem HR.step {w : World} {p : Nat} {n : Int} {W w2 : World} (hb : Below W.heap.size W w2) (h : HR w p n W) : HR w p n w2 := ⟨h.1.trans (hb.mono h.1.size), h.2.1.step hb, h.2.2.1.step hb, h.2.2.2.step hb⟩
theorem HR.drew {w : World} {p : Nat} {n : Int} {W : World} (h : HR w p n W) : HR w p n W.drew := HR.step (below_drew W) h
theorem hr_new (w : World) (p : Nat) (n : Int) (t : TypeId) : HR w p n (((w.alloc (.cells #[.int .u64 (hi p : Nat), .int .u64 (lo p : Nat), .int .i64 n] t)).alloc (.cells #[.int .u64 0, .int .u64 0, .int .i64 0] t)).alloc (.cells #[.int .u64 0, .int .u64 0, .int .i64 0] t)) := by
  refine ⟨((below_alloc w _).alloc (by simp) _).alloc (by simp; omega) _, ((three_new w _ _ _ t).step (below_alloc _ _)).step (below_alloc _ _), ?_, ?_⟩
  · have := (three_new (w.alloc (.cells #[.int .u64 (hi p : Nat), .int .u64 (lo p : Nat), .int .i64 n] t)) (.int .u64 0) (.int .u64 0) (.int .i64 0) t).step (below_alloc _ (.cells #[.int .u64 0, .int .u64 0, .int .i64 0] t))
    simpa using this
  · have := three_new ((w.alloc (.cells #[.int .u64 (hi p : Nat), .int .u64 (lo p : Nat), .int .i64 n] t)).alloc (.cells #[.int .u64 0, .int .u64 0, .int .i64 0] t)) (.int .u64 0) (.int .u64 0) (.int .i64 0) t
    simpa using this
/-- what every order of the last statement keeps -/
def HQ (w : World) (p : Nat) (n : Int) (W : World) : Prop := Below w.heap.size w W ∧
  Three w.heap.size (.int .u64 (hi p : Nat)) (.int .u64 (lo p : Nat)) (.int .i64 n) W
theorem HR.hq {w : World} {p : Nat} {n : Int} {W : World} (h : HR w p n W) : HQ w p n W := ⟨h.1, h.2.1⟩
theorem HQ.set {w : World} {p : Nat} {n : Int} {W : World} (h : HQ w p n W) {q : Addr} (hq : w.heap.size < q.block) (u : Value) : HQ w p n (W.setCell q u) :=
  ⟨h.1.setCell (by omega) u, three_set h.2 (by omega) u⟩
theorem hq_all {w : World} {p : Nat} {n : Int} {W : World} (h : HQ w p n W) : HQ w p n W ∧ W.cell? ⟨w.heap.size, 0, none⟩ = some (.int .u64 (hi p : Nat)) ∧
    W.cell? ⟨w.heap.size, 1, none⟩ = some (.int .u64 (lo p : Nat)) ∧ W.cell? ⟨w.heap.size, 2, none⟩ = some (.int .i64 n) := by
  have h' := h
  obtain ⟨_, c0, c1, c2, _⟩ := h'
  exact ⟨h, c0, c1, c2⟩

set_option maxHeartbeats 2000000 in
theorem rhalves_yes {p : Nat} (hp : Fits p) (n : Int) (hs : soundS p n = true) (h1 : n ≠ 128) (w : World) :
    Calls Try.prog 34 #[Pv p n] w (Gives (.tuple #[Pv (lowA p n) (halfN p n), Pv (highA p n) (halfN p n), .bool (halfOk p n)]) w) := by
  have hne : (n == 128) = false := by simpa using h1
  have ⟨⟨hn0, hn1⟩, hc0⟩ := sound_iff.1 hs
  have hn2 : n < 128 := by omega
  have ho : halfOk p n = true := by unfold halfOk; rw [hs, hne]; rfl
  have Q0 := hide ho
  have Q1 := hide (show lowA p n = p by unfold lowA; rw [if_pos ho])
  have Q2 := hide (show halfN p n = n + 1 by unfold halfN; rw [if_pos ho])
  have Q3 := hide (show highA p n = withS p n.toNat by unfold highA; rw [if_pos ho]; exact (with_half hc0 (by omega)).symm)
  have WC := hide (with_any hp n hn0 hn2)
  generalize withS p n.toNat = x at Q3 WC
  have HW := hide (show IntKind.i64.wrap (n + 1) = n + 1 from IntWalk.i64_in _ ⟨by omega, by omega⟩)
  clear hc0 ho
  go_enter Try.func34, Try.ntmps34
  go_wp2_with fail
  refine (rsound_any hp n _).mono ?_
  rintro e w1 ⟨rfl, hb1⟩
  have HH := HR.step hb1 (hr_new w p n _)
  clear hb1
  obtain ⟨HB, ⟨a0, a1, a2, a3, a4, a5, a6⟩, ⟨b0, b1, b2, b3, b4, b5, b6⟩, ⟨c0, c1, c2, c3, c4, c5, c6⟩⟩ := id HH
  go_wp2_with fail
  go_region_held3 (fun W => HQ w p n W ∧ W.cell? ⟨w.heap.size, 0, none⟩ = some (.int .u64 (hi p : Nat)) ∧ W.cell? ⟨w.heap.size, 1, none⟩ = some (.int .u64 (lo p : Nat)) ∧ W.cell? ⟨w.heap.size, 2, none⟩ = some (.int .i64 n))
    (first
      | (refine hq_all ?_; with_reducible exact HH.drew.hq)
      | (refine hq_all ?_; with_reducible exact (HR.step hb2 HH.drew).hq)
      | (refine hq_all ?_; (repeat (with_reducible refine HQ.set ?_ ?_ _)); (with_reducible exact (HR.step hb2 HH.drew).hq); all_goals (dsimp only; omega)))
    (first
      | (go_at_call 43; refine (WC.out _).mono ?_; rintro e w2 ⟨rfl, hb2⟩; (refine both (HR.step hb2 HH.drew) ?_; rintro ⟨HB', ⟨r0, r1, r2, r3, r4, r5, r6⟩, ⟨s0, s1, s2, s3, s4, s5, s6⟩, ⟨t0, t1, t2, t3, t4, t5, t6⟩⟩)))
  all_goals
    rename_i hF
    clear hF
    rw [HW.out]
    go_wp2
    refine bodyPost_ret (v := .tuple #[Pv (lowA p n) (halfN p n), Pv (highA p n) (halfN p n), .bool (halfOk p n)]) ?_ rfl ⟨rfl, ?_⟩
    · rw [Q0.out, Q1.out, Q2.out, Q3.out]
      simp [results, Try.results34, go_sem, *]
    · repeat' (first | (with_reducible exact HB') | (with_reducible apply Below.drew) | (with_reducible apply Below.alloc) | (with_reducible apply Below.setCell))
      all_goals first | omega | (dsimp only; omega) | (simp; omega)

set_option maxHeartbeats 1000000 in
theorem rhalves_no {p : Nat} (hp : Fits p) (n : Int) (hs : soundS p n = false ∨ n = 128) (w : World) :
    Calls Try.prog 34 #[Pv p n] w (Gives (.tuple #[Pv (lowA p n) (halfN p n), Pv (highA p n) (halfN p n), .bool (halfOk p n)]) w) := by
  have ho : halfOk p n = false := by
    unfold halfOk
    rcases hs with h | h
    · rw [h]; rfl
    · rw [h]; simp
  have Q0 := hide ho
  have Q1 := hide (show lowA p n = 0 by unfold lowA; rw [if_neg (by simp [ho])])
  have Q2 := hide (show halfN p n = 0 by unfold halfN; rw [if_neg (by simp [ho])])
  have Q3 := hide (show highA p n = 0 by unfold highA; rw [if_neg (by simp [ho])])
  clear ho
  cases hb0 : soundS p n
  · go_enter Try.func34, Try.ntmps34
    go_wp2_with fail
    refine (rsound_any hp n _).mono ?_
    rintro e w' ⟨rfl, hb⟩
    obtain ⟨hc, hf⟩ := bcell hb
    have hz := hb.size
    simp at hz
    have hz0 : w.heap.size < w'.heap.size := by omega
    have hz1 : w.heap.size + 1 < w'.heap.size := by omega
    have hz2 : w.heap.size + 1 + 1 < w'.heap.size := by omega
    go_wp2_with fail
    refine bodyPost_ret (v := .tuple #[Pv (lowA p n) (halfN p n), Pv (highA p n) (halfN p n), .bool (halfOk p n)]) ?_ rfl ⟨rfl, ?_⟩
    · rw [Q0.out, Q1.out, Q2.out, Q3.out]
      simp [results, Try.results34, go_sem, hc, hi_zero, lo_zero]
    · have HB := (((Below.refl w.heap.size w).alloc (Nat.le_refl _) (.cells #[.int .u64 (hi p : Nat), .int .u64 (lo p : Nat), .int .i64 n] 36)).alloc (by simp) (.cells #[.int .u64 0, .int .u64 0, .int .i64 0] 36)).alloc (by simp; omega) (.cells #[.int .u64 0, .int .u64 0, .int .i64 0] 36) |>.trans (hb.mono (by simp; omega))
      repeat' (first | (with_reducible exact HB) | (with_reducible apply Below.drew) | (with_reducible apply Below.alloc) | (with_reducible apply Below.setCell))
      all_goals first | omega | (dsimp only; omega) | (simp; omega)
  · have hn : n = 128 := by
      rcases hs with h | h
      · rw [hb0] at h; cases h
      · exact h
    have hne : (n == 128) = true := by simpa using hn
    clear hs hn
    go_enter Try.func34, Try.ntmps34
    go_wp2_with fail
    refine (rsound_any hp n _).mono ?_
    rintro e w' ⟨rfl, hb⟩
    obtain ⟨hc, hf⟩ := bcell hb
    have hz := hb.size
    simp at hz
    have hz0 : w.heap.size < w'.heap.size := by omega
    have hz1 : w.heap.size + 1 < w'.heap.size := by omega
    have hz2 : w.heap.size + 1 + 1 < w'.heap.size := by omega
    go_wp2_with fail
    refine bodyPost_ret (v := .tuple #[Pv (lowA p n) (halfN p n), Pv (highA p n) (halfN p n), .bool (halfOk p n)]) ?_ rfl ⟨rfl, ?_⟩
    · rw [Q0.out, Q1.out, Q2.out, Q3.out]
      simp [results, Try.results34, go_sem, hc, hi_zero, lo_zero]
    · have HB := (((Below.refl w.heap.size w).alloc (Nat.le_refl _) (.cells #[.int .u64 (hi p : Nat), .int .u64 (lo p : Nat), .int .i64 n] 36)).alloc (by simp) (.cells #[.int .u64 0, .int .u64 0, .int .i64 0] 36)).alloc (by simp; omega) (.cells #[.int .u64 0, .int .u64 0, .int .i64 0] 36) |>.trans (hb.mono (by simp; omega))
      repeat' (first | (with_reducible exact HB) | (with_reducible apply Below.drew) | (with_reducible apply Below.alloc) | (with_reducible apply Below.setCell))
      all_goals first | omega | (dsimp only; omega) | (simp; omega)

theorem rhalves_any {p : Nat} (hp : Fits p) (n : Int) (w : World) :
    Calls Try.prog 34 #[Pv p n] w (Gives (.tuple #[Pv (lowA p n) (halfN p n), Pv (highA p n) (halfN p n), .bool (halfOk p n)]) w) := by
  by_cases h : soundS p n = true ∧ n ≠ 128
  · exact rhalves_yes hp n h.1 h.2 w
  · refine rhalves_no hp n ?_ w
    by_cases k : n = 128
    · exact Or.inr k
    · left
      cases e : soundS p n
      · rfl
      · exact absurd ⟨e, k⟩ h
end Go.Proofs.Ytlbconflbaohfaa
