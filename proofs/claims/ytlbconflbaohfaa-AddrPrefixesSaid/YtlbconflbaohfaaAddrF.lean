/-
  Contract of Halves: what it returns for every prefix value, and that no memory that existed is changed. Condition: the words are words of 64 bits (every value of the type is such), an int is an int of 64 bits.
-/
import Derived.Test.YtlbconflbaohfaaAddrE
import Derived.Test.YtlbconflbaohfaaAddrV
import Derived.Deep.RegionWith
import Derived.Deep.RegionHeld3
namespace Go.Proofs.Ytlbconflbaohfaa
open Go.RowKit

theorem rv_last (a b : Nat) (W : World) : (Instr.field 41 (Rv a b) 1).run Try.prog W = .ok (A b) W := by kernel_rfl

/-- three cells of a block, and that they may be written -/
def Three (g : Nat) (x y z : Value) (W : World) : Prop := W.cell? ⟨g, 0, none⟩ = some x ∧ W.cell? ⟨g, 1, none⟩ = some y ∧ W.cell? ⟨g, 2, none⟩ = some z ∧ W.frozen? ⟨g, 0, none⟩ = false ∧ W.frozen? ⟨g, 1, none⟩ = false ∧ W.frozen? ⟨g, 2, none⟩ = false ∧ g < W.heap.size
theorem Three.step {g : Nat} {x y z : Value} {W w2 : World} (h : Three g x y z W) (hb : Below W.heap.size W w2) : Three g x y z w2 := by
  obtain ⟨a, b, c, d, e, f, l⟩ := h
  have s := hb.size
  exact ⟨cell_keep hb a, cell_keep hb b, cell_keep hb c, free_keep hb l d, free_keep hb l e, free_keep hb l f, by omega⟩
theorem three_new (V : World) (x y z : Value) (t : TypeId) : Three V.heap.size x y z (V.alloc (.cells #[x, y, z] t)) := by
  refine ⟨by simp, by simp, by simp, ?_, ?_, ?_, by simp⟩ <;> simp [go_sem]
theorem three_a {V w2 : World} {x y z : Value} {t : TypeId} (hb : Below (V.alloc (.cells #[x, y, z] t)).heap.size (V.alloc (.cells #[x, y, z] t)) w2) : Three V.heap.size x y z w2 := (three_new V x y z t).step hb
theorem three_b {V w2 : World} {x y z : Value} {t : TypeId} (hb : Below (V.alloc (.cells #[x, y, z] t)).drew.heap.size (V.alloc (.cells #[x, y, z] t)).drew w2) : Three V.heap.size x y z w2 := ((three_new V x y z t).step (below_drew _)).step hb
theorem three_set {g : Nat} {x y z : Value} {W : World} (h : Three g x y z W) {p : Addr} (hp : p.block ≠ g) (u : Value) : Three g x y z (W.setCell p u) := by
  obtain ⟨a, b, c, d, e, f, l⟩ := h
  have k : ∀ o, (W.setCell p u).cell? ⟨g, o, none⟩ = W.cell? ⟨g, o, none⟩ := fun o => World.cell?_of_block (w := W) (Below.heap_setCell W p u g (Ne.symm hp))
  have m : ∀ o, (W.setCell p u).frozen? ⟨g, o, none⟩ = W.frozen? ⟨g, o, none⟩ := fun o => World.frozen?_of_block (w := W) (Below.heap_setCell W p u g (Ne.symm hp))
  have z : (W.setCell p u).heap.size = W.heap.size := by simp
  refine ⟨?_, ?_, ?_, ?_, ?_, ?_, by omega⟩
  · rw [k]; exact a
  · rw [k]; exact b
  · rw [k]; exact c
  · rw [m]; exact d
  · rw [m]; exact e
  · rw [m]; exact f

/-- the blocks of the call: the prefix, the two results' places, the lower half -/
def HeldH (w : World) (p : Nat) (n : Int) (g : Nat) (W : World) : Prop := Below w.heap.size w W ∧ w.heap.size + 1 + 1 < g ∧
  Three w.heap.size (.int .u64 (hi p : Nat)) (.int .u64 (lo p : Nat)) (.int .i64 n) W ∧ Three (w.heap.size + 1) (.int .u64 0) (.int .u64 0) (.int .i64 0) W ∧
  Three (w.heap.size + 1 + 1) (.int .u64 0) (.int .u64 0) (.int .i64 0) W ∧ Three g (.int .u64 (hi p : Nat)) (.int .u64 (lo p : Nat)) (.int .i64 (n + 1)) W
theorem HeldH.step {w : World} {p : Nat} {n : Int} {g : Nat} {W w2 : World} (h : HeldH w p n g W) (hb : Below W.heap.size W w2) : HeldH w p n g w2 := by
  obtain ⟨a, b, c, d, e, f⟩ := h
  exact ⟨a.trans (hb.mono a.size), b, c.step hb, d.step hb, e.step hb, f.step hb⟩
theorem HeldH.alloc {w : World} {p : Nat} {n : Int} {g : Nat} {W : World} (h : HeldH w p n g W) (o : Obj) : HeldH w p n g (W.alloc o) := h.step (below_alloc W o)
theorem HeldH.drew {w : World} {p : Nat} {n : Int} {g : Nat} {W : World} (h : HeldH w p n g W) : HeldH w p n g W.drew := h.step (below_drew W)
theorem HeldH.set {w : World} {p : Nat} {n : Int} {g : Nat} {W : World} (h : HeldH w p n g W) {q : Addr} (hq : g < q.block) (u : Value) : HeldH w p n g (W.setCell q u) := by
  obtain ⟨a, b, c, d, e, f⟩ := h
  exact ⟨a.setCell (by omega) u, b, three_set c (by omega) u, three_set d (by omega) u, three_set e (by omega) u, three_set f (by omega) u⟩
theorem heldH_lt {w : World} {p : Nat} {n : Int} {g : Nat} {W : World} (h : HeldH w p n g W) : g < W.heap.size := by
  obtain ⟨_, _, _, _, _, _, _, _, _, _, _, l⟩ := h
  exact l
theorem heldH_all {w : World} {p : Nat} {n : Int} {g : Nat} {W : World} (h : HeldH w p n g W) : HeldH w p n g W ∧ W.cell? ⟨w.heap.size, 0, none⟩ = some (.int .u64 (hi p : Nat)) ∧
    W.cell? ⟨w.heap.size, 1, none⟩ = some (.int .u64 (lo p : Nat)) ∧ W.cell? ⟨w.heap.size, 2, none⟩ = some (.int .i64 n) := by
  have h' := h
  obtain ⟨_, _, ⟨c0, c1, c2, _⟩, _⟩ := h'
  exact ⟨h, c0, c1, c2⟩

set_option maxHeartbeats 2000000 in
theorem halves_yes {p : Nat} (hp : Fits p) (n : Int) (hs : soundS p n = true) (h1 : n ≠ 128) (w : World) :
    Calls Try.prog 33 #[Pv p n] w (Gives (.tuple #[Pv (lowA p n) (halfN p n), Pv (highA p n) (halfN p n), .bool (halfOk p n)]) w) := by
  have hne : (n == 128) = false := by simpa using h1
  have ⟨⟨hn0, hn1⟩, hc0⟩ := sound_iff.1 hs
  have hn2 : n < 128 := by omega
  have ho : halfOk p n = true := by unfold halfOk; rw [hs, hne]; rfl
  have Q0 := hide ho
  have Q1 := hide (show lowA p n = p by unfold lowA; rw [if_pos ho])
  have Q2 := hide (show halfN p n = n + 1 by unfold halfN; rw [if_pos ho])
  have hok : okN (n + 1) = true := by unfold okN; simp; omega
  have K1 := show lastA p n = lastS p n.toNat by unfold lastA; rw [if_pos hs]
  have Q3 := hide (show highA p n = clipA (lastA p n) (n + 1) by
    unfold highA clipA
    rw [if_pos ho, if_pos hok, K1, show (n + 1).toNat = n.toNat + 1 by omega]
    exact (high_clip hc0 (by omega)).symm)
  have KF : Fits (lastA p n) := by rw [K1]; exact fits_lastS hp hc0 (by omega)
  have HW := hide (show IntKind.i64.wrap (n + 1) = n + 1 from IntWalk.i64_in _ ⟨by omega, by omega⟩)
  have hcn := clipN_ok hok
  have hfld := rv_last (firstA p n) (lastA p n)
  clear hc0 K1 ho
  go_enter Try.func33, Try.ntmps33
  go_wp2_with fail
  refine (sound_any hp n _).mono ?_
  rintro e w' ⟨rfl, hb⟩
  obtain ⟨hc, hf⟩ := bcell hb
  have hz := hb.size
  simp at hz
  have hz0 : w.heap.size < w'.heap.size := by omega
  have hz1 : w.heap.size + 1 < w'.heap.size := by omega
  have hz2 : w.heap.size + 1 + 1 < w'.heap.size := by omega
  have HH0 : HeldH w p n w'.heap.size (w'.alloc (.cells #[.int .u64 (hi p : Nat), .int .u64 (lo p : Nat), .int .i64 (n + 1)] 36)) := by
    refine ⟨((((Below.refl _ _).alloc (Nat.le_refl _) _).alloc (by simp) _).alloc (by simp; omega) _ |>.trans (hb.mono (by simp; omega))).alloc (by omega) _, hz2, ?_, ?_, ?_, three_new _ _ _ _ _⟩
    · exact (((three_new w _ _ _ _).step (below_alloc _ _)).step (below_alloc _ _)).step hb |>.step (below_alloc _ _)
    · have := ((three_new (w.alloc (.cells #[.int .u64 (hi p : Nat), .int .u64 (lo p : Nat), .int .i64 n] 36)) (.int .u64 0) (.int .u64 0) (.int .i64 0) 36).step (below_alloc _ _)).step hb |>.step (below_alloc _ (.cells #[.int .u64 (hi p : Nat), .int .u64 (lo p : Nat), .int .i64 (n + 1)] 36))
      simpa using this
    · have := (three_new ((w.alloc (.cells #[.int .u64 (hi p : Nat), .int .u64 (lo p : Nat), .int .i64 n] 36)).alloc (.cells #[.int .u64 0, .int .u64 0, .int .i64 0] 36)) (.int .u64 0) (.int .u64 0) (.int .i64 0) 36).step hb |>.step (below_alloc _ (.cells #[.int .u64 (hi p : Nat), .int .u64 (lo p : Nat), .int .i64 (n + 1)] 36))
      simpa using this
  go_wp2_with fail
  generalize hg : w'.heap.size = g at *
  generalize w'.alloc (.cells #[.int .u64 (hi p : Nat), .int .u64 (lo p : Nat), .int .i64 (n + 1)] 36) = V at *
  clear hc hf hz hg hb
  have HHa := heldH_all HH0
  obtain ⟨_, e0, e1, e2⟩ := HHa
  have zV := HH0.1.size
  go_region_held3 (fun W => HeldH w p n g W ∧ W.cell? ⟨w.heap.size, 0, none⟩ = some (.int .u64 (hi p : Nat)) ∧ W.cell? ⟨w.heap.size, 1, none⟩ = some (.int .u64 (lo p : Nat)) ∧ W.cell? ⟨w.heap.size, 2, none⟩ = some (.int .i64 n))
    (first
      | (refine heldH_all ?_; (first | exact HH0.drew | exact HH0.drew.alloc _ | exact (HH0.alloc _).drew))
      | (refine heldH_all ?_; (refine HeldH.step ?_ hb2; (first | exact HH0.drew | exact HH0.drew.alloc _ | exact (HH0.alloc _).drew)))
      | (refine heldH_all (HeldH.alloc ?_ _); (refine HeldH.step ?_ hb2; (first | exact HH0.drew | exact HH0.drew.alloc _ | exact (HH0.alloc _).drew)))
      | (refine heldH_all ?_; (refine HeldH.step ?_ hb3; first | (refine HeldH.step ?_ hb2; (first | exact HH0.drew | exact HH0.drew.alloc _ | exact (HH0.alloc _).drew)) | (refine HeldH.alloc ?_ _; (refine HeldH.step ?_ hb2; (first | exact HH0.drew | exact HH0.drew.alloc _ | exact (HH0.alloc _).drew)))))
      | (refine heldH_all (HeldH.alloc ?_ _); (refine HeldH.step ?_ hb3; first | (refine HeldH.step ?_ hb2; (first | exact HH0.drew | exact HH0.drew.alloc _ | exact (HH0.alloc _).drew)) | (refine HeldH.alloc ?_ _; (refine HeldH.step ?_ hb2; (first | exact HH0.drew | exact HH0.drew.alloc _ | exact (HH0.alloc _).drew)))))
      | (refine heldH_all (HeldH.set (HeldH.set (HeldH.set ?_ ?_ _) ?_ _) ?_ _); (refine HeldH.step ?_ hb3; first | (refine HeldH.step ?_ hb2; (first | exact HH0.drew | exact HH0.drew.alloc _ | exact (HH0.alloc _).drew)) | (refine HeldH.alloc ?_ _; (refine HeldH.step ?_ hb2; (first | exact HH0.drew | exact HH0.drew.alloc _ | exact (HH0.alloc _).drew)))); all_goals (have zz := hb2.size; (try simp at zz); have zy := heldH_lt HH0; dsimp only; omega)))
    (first
      | (go_at_call 31; refine (span_any hp n _).mono ?_; rintro e w2 ⟨rfl, hb2⟩; (first | (refine both (three_b hb2) ?_; intro fr2) | (refine both (three_a hb2) ?_; intro fr2) | skip))
      | (go_at_call 27; refine (clip_any KF _ _).mono ?_; rintro e w3 ⟨rfl, hb3⟩; (first | (refine both (Three.step fr2 hb3) ?_; rintro ⟨q1, q2, q3, q4, q5, q6, q7⟩) | skip); (first | (refine both (three_a hb3) ?_; rintro ⟨r1, r2, r3, r4, r5, r6, r7⟩) | skip)))
  all_goals
    rename_i hF
    clear hF
    have H3 : HeldH w p n g w3 := by (refine HeldH.step ?_ hb3; first | (refine HeldH.step ?_ hb2; (first | exact HH0.drew | exact HH0.drew.alloc _ | exact (HH0.alloc _).drew)) | (refine HeldH.alloc ?_ _; (refine HeldH.step ?_ hb2; (first | exact HH0.drew | exact HH0.drew.alloc _ | exact (HH0.alloc _).drew))))
    have y2 : g < w2.heap.size := by have zz := hb2.size; (try simp at zz); have zy := heldH_lt HH0; omega
    have gV : g < V.heap.size := heldH_lt HH0
    have zw := hb3.size
    (try simp at zw)
    obtain ⟨HB, hl, ⟨a0, a1, a2, a3, a4, a5, a6⟩, ⟨b0, b1, b2, b3, b4, b5, b6⟩, ⟨c0, c1, c2, c3, c4, c5, c6⟩, ⟨d0, d1, d2, d3, d4, d5, d6⟩⟩ := H3
    clear zV HH0 hb2 hb3 e0 e1 e2
    rw [HW.out]
    go_wp2_with fail
    go_region
    go_wp2
    refine bodyPost_ret (v := .tuple #[Pv (lowA p n) (halfN p n), Pv (highA p n) (halfN p n), .bool (halfOk p n)]) ?_ rfl ⟨rfl, ?_⟩
    · rw [Q0.out, Q1.out, Q2.out, Q3.out]
      simp [results, Try.results33, go_sem, *]
    · repeat' (first | (with_reducible exact HB) | (with_reducible apply Below.drew) | (with_reducible apply Below.alloc) | (with_reducible apply Below.setCell))
      all_goals first | omega | (dsimp only; omega) | (simp; omega)

set_option maxHeartbeats 1000000 in
theorem halves_no {p : Nat} (hp : Fits p) (n : Int) (hs : soundS p n = false ∨ n = 128) (w : World) :
    Calls Try.prog 33 #[Pv p n] w (Gives (.tuple #[Pv (lowA p n) (halfN p n), Pv (highA p n) (halfN p n), .bool (halfOk p n)]) w) := by
  have ho : halfOk p n = false := by
    unfold halfOk
    rcases hs with h | h
    · rw [h]; rfl
    · rw [h]; simp
  have Q0 := hide ho
  have Q1 := hide (show lowA p n = 0 by unfold lowA; rw [if_neg (by simp [ho])])
  have Q2 := hide (show halfN p n = 0 by unfold halfN; rw [if_neg (by simp [ho])])
  have Q3 := hide (show highA p n = 0 by unfold highA; rw [if_neg (by simp [ho])])
  clear ho
  cases hb0 : soundS p n
  · go_enter Try.func33, Try.ntmps33
    go_wp2_with fail
    refine (sound_any hp n _).mono ?_
    rintro e w' ⟨rfl, hb⟩
    obtain ⟨hc, hf⟩ := bcell hb
    have hz := hb.size
    simp at hz
    have hz0 : w.heap.size < w'.heap.size := by omega
    have hz1 : w.heap.size + 1 < w'.heap.size := by omega
    have hz2 : w.heap.size + 1 + 1 < w'.heap.size := by omega
    go_wp2_with fail
    refine bodyPost_ret (v := .tuple #[Pv (lowA p n) (halfN p n), Pv (highA p n) (halfN p n), .bool (halfOk p n)]) ?_ rfl ⟨rfl, ?_⟩
    · rw [Q0.out, Q1.out, Q2.out, Q3.out]
      simp [results, Try.results33, go_sem, hc, hi_zero, lo_zero]
    · have HB := (((Below.refl w.heap.size w).alloc (Nat.le_refl _) (.cells #[.int .u64 (hi p : Nat), .int .u64 (lo p : Nat), .int .i64 n] 36)).alloc (by simp) (.cells #[.int .u64 0, .int .u64 0, .int .i64 0] 36)).alloc (by simp; omega) (.cells #[.int .u64 0, .int .u64 0, .int .i64 0] 36) |>.trans (hb.mono (by simp; omega))
      repeat' (first | (with_reducible exact HB) | (with_reducible apply Below.drew) | (with_reducible apply Below.alloc) | (with_reducible apply Below.setCell))
      all_goals first | omega | (dsimp only; omega) | (simp; omega)
  · have hn : n = 128 := by
      rcases hs with h | h
      · rw [hb0] at h; cases h
      · exact h
    have hne : (n == 128) = true := by simpa using hn
    clear hs hn
    go_enter Try.func33, Try.ntmps33
    go_wp2_with fail
    refine (sound_any hp n _).mono ?_
    rintro e w' ⟨rfl, hb⟩
    obtain ⟨hc, hf⟩ := bcell hb
    have hz := hb.size
    simp at hz
    have hz0 : w.heap.size < w'.heap.size := by omega
    have hz1 : w.heap.size + 1 < w'.heap.size := by omega
    have hz2 : w.heap.size + 1 + 1 < w'.heap.size := by omega
    go_wp2_with fail
    refine bodyPost_ret (v := .tuple #[Pv (lowA p n) (halfN p n), Pv (highA p n) (halfN p n), .bool (halfOk p n)]) ?_ rfl ⟨rfl, ?_⟩
    · rw [Q0.out, Q1.out, Q2.out, Q3.out]
      simp [results, Try.results33, go_sem, hc, hi_zero, lo_zero]
    · have HB := (((Below.refl w.heap.size w).alloc (Nat.le_refl _) (.cells #[.int .u64 (hi p : Nat), .int .u64 (lo p : Nat), .int .i64 n] 36)).alloc (by simp) (.cells #[.int .u64 0, .int .u64 0, .int .i64 0] 36)).alloc (by simp; omega) (.cells #[.int .u64 0, .int .u64 0, .int .i64 0] 36) |>.trans (hb.mono (by simp; omega))
      repeat' (first | (with_reducible exact HB) | (with_reducible apply Below.drew) | (with_reducible apply Below.alloc) | (with_reducible apply Below.setCell))
      all_goals first | omega | (dsimp only; omega) | (simp; omega)

theorem halves_any {p : Nat} (hp : Fits p) (n : Int) (w : World) :
    Calls Try.prog 33 #[Pv p n] w (Gives (.tuple #[Pv (lowA p n) (halfN p n), Pv (highA p n) (halfN p n), .bool (halfOk p n)]) w) := by
  by_cases h : soundS p n = true ∧ n ≠ 128
  · exact halves_yes hp n h.1 h.2 w
  · refine halves_no hp n ?_ w
    by_cases k : n = 128
    · exact Or.inr k
    · left
      cases e : soundS p n
      · rfl
      · exact absurd ⟨e, k⟩ h
end Go.Proofs.Ytlbconflbaohfaa
