/-
  The contracts of a table's told, Find and Of: the lease that a key, an owner has. Conditions: the words are words of 64 bits, a text is no longer than an int (every value of the types is such).
-/
import Derived.Test.YtpldkgollhbolaaTbR
namespace Go.Proofs.Ytpldkgollhbolaa
open Go.RowKit Go.Joins Go.Maps

variable {w w' W W' : World} {t km om : Nat} {O : Nat → Prop} {v : Value} {E : List En} {L : List Ls}
def zLs : Ls := ⟨0, 0, 0, 0, ⟨#[]⟩, 0, 0⟩
abbrev zLv : Value := .agg #[.int .i64 0, .int .u64 0, .int .u64 0, .int .i64 0, .int .i64 0, .string ⟨#[]⟩, .int .u32 0, .int .i64 0]
def tellV (o : Option Ls) : Value := match o with | some y => .tuple #[Lv y, .bool true] | none => .tuple #[Lv zLs, .bool false]
def findL (L : List Ls) (k : Int) (p : Nat) (n : Int) : Option Ls := L.find? (fun y => decide (y.kind = k ∧ y.p = p ∧ y.n = n))
def ofL (L : List Ls) (k : Int) (c : ByteArray) (i : Nat) : Option Ls := L.find? (fun y => decide (y.st = 1 ∧ y.kind = k ∧ y.cl = c ∧ y.ia = i))
theorem told_nil (w : World) : Calls Try.prog 32 #[.pointer none] w (Gives (.tuple #[zLv, .bool false]) w) := by
  go_enter Try.func32, Try.ntmps32
  go_wp2
  refine bodyPost_ret (v := .tuple #[zLv, .bool false]) (by simp [results, Try.results32, go_sem]) rfl ⟨rfl, ?_⟩
  exact (Below.refl _ _).alloc (Nat.le_refl _) _
theorem told_some {g i : Nat} {y : Ls} (h : NodeAt w g y i) : Calls Try.prog 32 #[Pt g] w (Gives (.tuple #[Lv y, .bool true]) w) := by
  obtain ⟨b0, b1, b2, b3, b4, b5, b6, b7, b8⟩ := node_cells h
  have hlt := lt_of_block h
  clear h
  go_enter Try.func32, Try.ntmps32
  go_wp2
  refine bodyPost_ret (v := .tuple #[Lv y, .bool true]) (by simp [results, Try.results32, go_sem]) rfl ⟨rfl, ?_⟩
  exact (Below.refl _ _).alloc (Nat.le_refl _) _
theorem mem_node (hp : L.Perm (E.map (·.2))) {y : Ls} (hy : y ∈ L) : ∃ g, (g, y) ∈ E := by
  obtain ⟨e, he, rfl⟩ := List.mem_map.1 (hp.mem_iff.1 hy)
  exact ⟨e.1, he⟩
theorem node_mem (hp : L.Perm (E.map (·.2))) {g : Nat} {y : Ls} (hy : (g, y) ∈ E) : y ∈ L := hp.mem_iff.2 (List.mem_map.2 ⟨_, hy, rfl⟩)
theorem Ends.nodeOf (h : Ends w t km om O v E) {g : Nat} {y : Ls} (hy : (g, y) ∈ E) : ∃ i, NodeAt w g y i := by
  obtain ⟨i, hi⟩ := List.mem_iff_getElem?.1 hy
  exact ⟨i, h.node i _ hi⟩
/-- what the map of keys answers -/
theorem look_key (h : TabE w t km om O v E) (hp : L.Perm (E.map (·.2))) {k : Int} {p : Nat} {n : Int} (hk : I64 k) (hpf : Fits p) (hn : I64 n) :
    (∃ g y i, findL L k p n = some y ∧ (g, y) ∈ E ∧ NodeAt w g y i ∧ (Instr.lookup 68 (.map (some km)) (keyV k p n) true).run Try.prog w = .ok (.tuple #[Pt g, .bool true]) w ∧ (Instr.lookup 68 (.map (some km)) (keyV k p n) false).run Try.prog w = .ok (Pt g) w) ∨
    (findL L k p n = none ∧ (Instr.lookup 68 (.map (some km)) (keyV k p n) true).run Try.prog w = .ok (.tuple #[.pointer none, .bool false]) w ∧ (Instr.lookup 68 (.map (some km)) (keyV k p n) false).run Try.prog w = .ok (.pointer none) w) := by
  cases e : findL L k p n with
  | some y =>
    left
    have hy := List.mem_of_find?_eq_some e
    have hb := List.find?_some e
    obtain ⟨g, hg⟩ := mem_node hp hy
    obtain ⟨i, hi⟩ := h.ends.nodeOf hg
    have hb := of_decide_eq_true hb
    obtain ⟨a, b⟩ := h.keys.yes KK Try.underlying68 zeroPN (key_ok hk hpf hn) (g := g) ⟨y, hg, key_inj.2 ⟨hb.1.symm, hb.2.1.symm, hb.2.2.symm⟩⟩
    exact ⟨g, y, i, rfl, hg, hi, a, b⟩
  | none =>
    right
    obtain ⟨a, b⟩ := h.keys.no KK Try.underlying68 zeroPN (key_ok hk hpf hn) (fun g ⟨y, hy, e2⟩ => by
      have := List.find?_eq_none.1 e y (node_mem hp hy)
      obtain ⟨a, b, c⟩ := key_inj.1 e2
      exact this (decide_eq_true ⟨a.symm, b.symm, c.symm⟩))
    exact ⟨rfl, a, b⟩
theorem look_own (h : TabE w t km om O v E) (hp : L.Perm (E.map (·.2))) {k : Int} {c : ByteArray} {ia : Nat} (hk : I64 k) (hc : c.size ≤ maxLen) (hia : ia < 4294967296) :
    (∃ g y i, ofL L k c ia = some y ∧ (g, y) ∈ E ∧ NodeAt w g y i ∧ (Instr.lookup 69 (.map (some om)) (ownV k c ia) true).run Try.prog w = .ok (.tuple #[Pt g, .bool true]) w ∧ (Instr.lookup 69 (.map (some om)) (ownV k c ia) false).run Try.prog w = .ok (Pt g) w) ∨
    (ofL L k c ia = none ∧ (Instr.lookup 69 (.map (some om)) (ownV k c ia) true).run Try.prog w = .ok (.tuple #[.pointer none, .bool false]) w ∧ (Instr.lookup 69 (.map (some om)) (ownV k c ia) false).run Try.prog w = .ok (.pointer none) w) := by
  cases e : ofL L k c ia with
  | some y =>
    left
    have hy := List.mem_of_find?_eq_some e
    have hb := List.find?_some e
    obtain ⟨g, hg⟩ := mem_node hp hy
    obtain ⟨i, hi⟩ := h.ends.nodeOf hg
    have hb := of_decide_eq_true hb
    obtain ⟨a, b⟩ := h.owns.yes KO Try.underlying69 zeroPN (own_ok hk hc hia) (g := g) ⟨y, hg, hb.1, own_inj.2 ⟨hb.2.1.symm, hb.2.2.1.symm, hb.2.2.2.symm⟩⟩
    exact ⟨g, y, i, rfl, hg, hi, a, b⟩
  | none =>
    right
    obtain ⟨a, b⟩ := h.owns.no KO Try.underlying69 zeroPN (own_ok hk hc hia) (fun g ⟨y, hy, hb, e2⟩ => by
      have := List.find?_eq_none.1 e y (node_mem hp hy)
      obtain ⟨a, b, c⟩ := own_inj.1 e2
      exact this (decide_eq_true ⟨hb, a.symm, b.symm, c.symm⟩))
    exact ⟨rfl, a, b⟩
theorem TabE.below (h : TabE w t km om O v E) (hb : Below w.heap.size w w') : TabE w' t km om O v E :=
  ⟨h.ends.below hb, h.keys.keep (KeepM.below hb), h.owns.keep (KeepM.below hb), h.heap, h.good, h.ownK, h.ne⟩
theorem IsTab.below (h : IsTab w t O L) (hb : Below w.heap.size w w') : IsTab w' t O L := by
  obtain ⟨km, om, v, E, h1, h2, h3⟩ := h
  exact ⟨km, om, v, E, h1.below hb, h2, h3⟩
set_option maxRecDepth 100000 in
set_option maxHeartbeats 2000000 in
theorem find_any (h : IsTab w t O L) {k : Int} {p : Nat} {n : Int} (hk : I64 k) (hpf : Fits p) (hn : I64 n) :
    Calls Try.prog 13 #[Pt t, .int .i64 k, Pv p n] w (Gives (tellV (findL L k p n)) w) := by
  obtain ⟨km, om, v, E, h1, h2, hp⟩ := h
  obtain ⟨c0, c1, c2⟩ := h1.ends.tabs
  have ht := lt_of_block h1.ends.tab
  have B2 : Below w.heap.size w ((w.alloc (.cells #[.int .u64 (hi p : Nat), .int .u64 (lo p : Nat), .int .i64 n] 33)).alloc (.cells #[.int .i64 0, .int .u64 0, .int .u64 0, .int .i64 0, .int .i64 0, .string ⟨#[]⟩, .int .u32 0, .int .i64 0] 36)).drew := chain (chain (below_alloc _ _) (below_alloc _ _)) (below_drew _)
  have BB := hide B2
  rcases look_key (h1.below B2) hp hk hpf hn with ⟨g, y, i, hf, hg, hnd, _, hrun⟩ | ⟨hf, _, hrun⟩
  · rw [hf]
    have TS := hide (told_some hnd)
    clear h1 h2 hp hf hg hnd hk hpf hn B2
    go_enter Try.func13, Try.ntmps13
    go_wp2_with fail
    go_region_with (go_at_call 32; refine TS.out.mono ?_; rintro e w1 ⟨rfl, hb1⟩; obtain ⟨hc1, hf1⟩ := bcell hb1)
    all_goals
      go_wp2
      refine bodyPost_ret (v := .tuple #[Lv y, .bool true]) (by simp [results, Try.results13, go_sem, hc1]) rfl ⟨rfl, ?_⟩
      have hb := chain BB.out hb1
      exact (((((((hb.setCell (by simp) _).setCell (by simp) _).setCell (by simp) _).setCell (by simp) _).setCell (by simp) _).setCell (by simp) _).setCell (by simp) _).setCell (by simp) _
  · rw [hf]
    clear h1 h2 hp hf hk hpf hn B2
    go_enter Try.func13, Try.ntmps13
    go_wp2_with fail
    go_region_with (go_at_call 32; refine (told_nil _).mono ?_; rintro e w1 ⟨rfl, hb1⟩; obtain ⟨hc1, hf1⟩ := bcell hb1)
    all_goals
      go_wp2
      refine bodyPost_ret (v := .tuple #[zLv, .bool false]) (by simp [results, Try.results13, go_sem, hc1]) rfl ⟨rfl, ?_⟩
      have hb := chain BB.out hb1
      exact (((((((hb.setCell (by simp) _).setCell (by simp) _).setCell (by simp) _).setCell (by simp) _).setCell (by simp) _).setCell (by simp) _).setCell (by simp) _).setCell (by simp) _
set_option maxRecDepth 100000 in
set_option maxHeartbeats 2000000 in
theorem of_any (h : IsTab w t O L) {k : Int} {c : ByteArray} {ia : Nat} (hk : I64 k) (hcl : c.size ≤ maxLen) (hia : ia < 4294967296) :
    Calls Try.prog 14 #[Pt t, .int .i64 k, .string c, .int .u32 (ia : Int)] w (Gives (tellV (ofL L k c ia)) w) := by
  obtain ⟨km, om, v, E, h1, h2, hp⟩ := h
  obtain ⟨c0, c1, c2⟩ := h1.ends.tabs
  have ht := lt_of_block h1.ends.tab
  have B2 : Below w.heap.size w (w.alloc (.cells #[.int .i64 0, .int .u64 0, .int .u64 0, .int .i64 0, .int .i64 0, .string ⟨#[]⟩, .int .u32 0, .int .i64 0] 36)) := below_alloc _ _
  have BB := hide B2
  rcases look_own (h1.below B2) hp hk hcl hia with ⟨g, y, i, hf, hg, hnd, _, hrun⟩ | ⟨hf, _, hrun⟩
  · rw [hf]
    have TS := hide (told_some hnd)
    clear h1 h2 hp hf hg hnd hk hcl hia B2
    go_enter Try.func14, Try.ntmps14
    go_wp2_with (go_at_call 32; refine TS.out.mono ?_; rintro e w1 ⟨rfl, hb1⟩; obtain ⟨hc1, hf1⟩ := bcell hb1)
    all_goals
      refine bodyPost_ret (v := .tuple #[Lv y, .bool true]) (by simp [results, Try.results14, go_sem, hc1]) rfl ⟨rfl, ?_⟩
      have hb := chain BB.out hb1
      exact (((((((hb.setCell (by simp) _).setCell (by simp) _).setCell (by simp) _).setCell (by simp) _).setCell (by simp) _).setCell (by simp) _).setCell (by simp) _).setCell (by simp) _
  · rw [hf]
    clear h1 h2 hp hf hk hcl hia B2
    go_enter Try.func14, Try.ntmps14
    go_wp2_with (go_at_call 32; refine (told_nil _).mono ?_; rintro e w1 ⟨rfl, hb1⟩; obtain ⟨hc1, hf1⟩ := bcell hb1)
    all_goals
      refine bodyPost_ret (v := .tuple #[zLv, .bool false]) (by simp [results, Try.results14, go_sem, hc1]) rfl ⟨rfl, ?_⟩
      have hb := chain BB.out hb1
      exact (((((((hb.setCell (by simp) _).setCell (by simp) _).setCell (by simp) _).setCell (by simp) _).setCell (by simp) _).setCell (by simp) _).setCell (by simp) _).setCell (by simp) _
end Go.Proofs.Ytpldkgollhbolaa
