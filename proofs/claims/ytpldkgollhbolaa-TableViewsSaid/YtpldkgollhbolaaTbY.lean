/-
  The contracts of a table's roomy and New: a table without leases, in new memory. Condition: the room is for at most 2000.
-/
import Derived.Test.YtpldkgollhbolaaTbX
import Derived.Laws.MakeOwn
namespace Go.Proofs.Ytpldkgollhbolaa
open Go.RowKit Go.Joins Go.Maps

variable {w w' V W W' : World} {t km om : Nat} {O : Nat → Prop} {v : Value} {E : List En} {L : List Ls}
/-- the blocks made since w -/
def New (w w' : World) (k : Nat) : Prop := w.heap.size ≤ k ∧ k < w'.heap.size
theorem MapK.empty {m : Nat} (kt : TypeId) (h : W.heap[m]? = some (.map #[] 0)) : MapK W kt m (fun _ _ => False) := by
  obtain ⟨es, clock, hb, F, hs, hD⟩ := World.ownsMap_made (H := Unit) W Try.prog kt ptrElem
  have e := heap_alloc_new W (.map #[] 0)
  rw [e] at hb
  simp only [Option.some.injEq, Obj.map.injEq] at hb
  obtain ⟨rfl, rfl⟩ := hb
  exact ⟨.map [], 0, ⟨#[], 0, h, F, hs, hD⟩, fun key kl hk => ⟨fun h => by simp [Maps.has] at h, fun g h => h.elim⟩⟩
theorem new_tab {g cap : Nat} {cur : Array Value} (ht : W.heap[t]? = some (.cells #[.map (some km), .map (some om), .slice (some ⟨g, 0, none⟩) 0 cap] 73 (0, 0))) (hk : W.heap[km]? = some (.map #[] 0)) (ho : W.heap[om]? = some (.map #[] 0))
    (hg : W.heap[g]? = some (.cells cur 67 (0, 0))) (hc : cur.size = cap) (hm : cap ≤ maxLen) (hne : km ≠ om) (h1 : w.heap.size ≤ t) (h2 : w.heap.size ≤ km) (h3 : w.heap.size ≤ om) (h4 : w.heap.size ≤ g) : IsTab W t (New w W) [] := by
  refine ⟨km, om, _, [], ⟨⟨ht, ⟨by simp [rowE], .inr ⟨g, cap, cur, rfl, Nat.zero_le _, hg, Nat.zero_le _, hm, by omega, by simp [rowE]⟩⟩, by simp, ⟨⟨h1, lt_of_block ht⟩, fun k hk2 => by cases hk2; exact ⟨h4, lt_of_block hg⟩, by simp⟩, fun k h => h.2, by simp, ⟨g, cap, rfl⟩⟩,
    (MapK.empty _ hk).iff (fun key g => ⟨fun h => h.elim, fun ⟨x, hx, _⟩ => by simp at hx⟩), (MapK.empty _ ho).iff (fun key g => ⟨fun h => h.elim, fun ⟨x, hx, _⟩ => by simp at hx⟩), fun k _ hk => by simp at hk, .nil, ⟨⟨h2, lt_of_block hk⟩, ⟨h3, lt_of_block ho⟩⟩, hne⟩, .nil, .nil⟩
def MadePost (w : World) (L : List Ls) (e : Ending) (w' : World) : Prop := ∃ t, e = .returned (Pt t) ∧ Below w.heap.size w w' ∧ IsTab w' t (New w w') L
theorem run_mm {T k e : TypeId} (ht : Try.prog.underlying T = some (.map k e)) (n : Nat) (h : n ≤ 2000) (W : World) : (Instr.makeMap T (some (.int .i64 (n : Int)))).run Try.prog W = .ok (.map (some W.heap.size)) (W.alloc (.map #[] 0)) := by
  have : ¬ ((n : Int) < 0) := by omega
  simp [Instr.makeMap, asInt, asIntOf, go_sem, run_underlying ht]
theorem at4_0 (w : World) (a b c d : Obj) : ((((w.alloc a).alloc b).alloc c).alloc d).drew.heap[w.heap.size]? = some a :=
  (Fr.ofBelow (chain (chain (chain (below_alloc _ b) (below_alloc _ c)) (below_alloc _ d)) (below_drew _))).keep (heap_alloc_new w a) (fun e => e)
theorem at4_1 (w : World) (a b c d : Obj) : ((((w.alloc a).alloc b).alloc c).alloc d).drew.heap[w.heap.size + 1]? = some b :=
  (Fr.ofBelow (chain (chain (below_alloc _ c) (below_alloc _ d)) (below_drew _))).keep (alloc_at (W := w.alloc a) b (by simp)) (fun e => e)
theorem at4_2 (w : World) (a b c d : Obj) : ((((w.alloc a).alloc b).alloc c).alloc d).drew.heap[w.heap.size + 1 + 1]? = some c :=
  (Fr.ofBelow (chain (below_alloc _ d) (below_drew _))).keep (alloc_at (W := (w.alloc a).alloc b) c (by simp)) (fun e => e)
theorem at4_3 (w : World) (a b c d : Obj) : ((((w.alloc a).alloc b).alloc c).alloc d).drew.heap[w.heap.size + 1 + 1 + 1]? = some d :=
  (Fr.ofBelow (below_drew _)).keep (alloc_at (W := ((w.alloc a).alloc b).alloc c) d (by simp)) (fun e => e)
theorem below4 (w : World) (a b c d : Obj) : Below w.heap.size w ((((w.alloc a).alloc b).alloc c).alloc d).drew := chain (chain (chain (chain (below_alloc _ a) (below_alloc _ b)) (below_alloc _ c)) (below_alloc _ d)) (below_drew _)
theorem run_ms (n : Nat) (h : n ≤ 2000) (W : World) : (Instr.makeSlice 71 (.int .i64 0) (.int .i64 (n : Int))).run Try.prog W = .ok (.slice (some ⟨W.heap.size, 0, none⟩) 0 n) (W.alloc (.cells (madeCells #[.pointer none] n) 67)) := by
  obtain ⟨i, hi, hz0, hz1, hz2⟩ := info_parts infoN
  have := run_make (P := Try.prog) W 71 67 i (.pointer none) Try.underlying71 hi hz0 .i64 .i64 0 (n : Int) (by omega) (by omega) (by rw [hz2]; omega) (by omega)
  rw [hz1, Int.toNat_natCast] at this
  simpa [Value.cells] using this
set_option maxRecDepth 100000 in
set_option maxHeartbeats 4000000 in
theorem roomy_any (n : Nat) (hn : n ≤ 2000) (w : World) : Calls Try.prog 39 #[.int .i64 (n : Int)] w (MadePost w []) := by
  have m1 := fun W => run_mm Try.underlying68 n hn W
  have m2 := fun W => run_mm Try.underlying69 n hn W
  have m3 := fun W => run_ms n hn W
  go_enter Try.func39, Try.ntmps39
  go_wp2_with fail
  go_region
  all_goals
    go_wp2
    go_ret
    refine ⟨_, rfl, below4 _ _ _ _ _, ?_⟩
    refine new_tab (cap := n) (cur := madeCells #[.pointer none] n) (at4_3 _ _ _ _ _) ?_ ?_ ?_ (size_madeCells _ _) (by unfold maxLen; omega) ?_ ?_ ?_ ?_ ?_
    all_goals first | exact at4_0 _ _ _ _ _ | exact at4_1 _ _ _ _ _ | exact at4_2 _ _ _ _ _ | omega
theorem new_any (w : World) : Calls Try.prog 23 #[] w (MadePost w []) := by
  have R := hide (roomy_any 0 (by omega) w)
  go_enter Try.func23, Try.ntmps23
  go_wp2_with fail
  refine R.out.mono ?_
  rintro e w2 ⟨t, rfl, hb, ht⟩
  have HT := hide ht
  clear ht
  go_wp2
  go_ret
  exact ⟨t, rfl, hb, HT.out⟩
end Go.Proofs.Ytpldkgollhbolaa
