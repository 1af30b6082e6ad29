/-
  The contracts of a table's told, Find and Of: the lease that a key, an owner has. Conditions: the words are words of 64 bits, a text is no longer than an int (every value of the types is such).
  The contract of a table's change: it makes a change that can be made, and answers the one that takes it back. Conditions: the change's lease is one of its type; one that is put is sound and in nobody's way.
-/
import Derived.Test.YtpldkgollhbolaaGreatTbR
namespace Go.Proofs.YtpldkgollhbolaaGreat
open Go.RowKit Go.Joins Go.Maps

variable {w w' W W' : World} {t km om : Nat} {O : Nat → Prop} {v : Value} {E : List En} {L : List Ls}
def zLs : Ls := ⟨0, 0, 0, 0, ⟨#[]⟩, 0, 0⟩
abbrev zLv : Value := .agg #[.int .i64 0, .int .u64 0, .int .u64 0, .int .i64 0, .int .i64 0, .string ⟨#[]⟩, .int .u32 0, .int .i64 0]
def tellV (o : Option Ls) : Value := match o with | some y => .tuple #[Lv y, .bool true] | none => .tuple #[Lv zLs, .bool false]
def findL (L : List Ls) (k : Int) (p : Nat) (n : Int) : Option Ls := L.find? (fun y => decide (y.kind = k ∧ y.p = p ∧ y.n = n))
def ofL (L : List Ls) (k : Int) (c : ByteArray) (i : Nat) : Option Ls := L.find? (fun y => decide (y.st = 1 ∧ y.kind = k ∧ y.cl = c ∧ y.ia = i))
theorem told_nil (w : World) : Calls Tryz.prog 37 #[.pointer none] w (Gives (.tuple #[zLv, .bool false]) w) := by
  go_enter Tryz.func37, Tryz.ntmps37
  go_wp2
  refine bodyPost_ret (v := .tuple #[zLv, .bool false]) (by simp [results, Tryz.results37, go_sem]) rfl ⟨rfl, ?_⟩
  exact (Below.refl _ _).alloc (Nat.le_refl _) _
theorem told_some {g i : Nat} {y : Ls} (h : NodeAt w g y i) : Calls Tryz.prog 37 #[Pt g] w (Gives (.tuple #[Lv y, .bool true]) w) := by
  obtain ⟨b0, b1, b2, b3, b4, b5, b6, b7, b8⟩ := node_cells h
  have hlt := lt_of_block h
  clear h
  go_enter Tryz.func37, Tryz.ntmps37
  go_wp2
  refine bodyPost_ret (v := .tuple #[Lv y, .bool true]) (by simp [results, Tryz.results37, go_sem]) rfl ⟨rfl, ?_⟩
  exact (Below.refl _ _).alloc (Nat.le_refl _) _
theorem mem_node (hp : L.Perm (E.map (·.2))) {y : Ls} (hy : y ∈ L) : ∃ g, (g, y) ∈ E := by
  obtain ⟨e, he, rfl⟩ := List.mem_map.1 (hp.mem_iff.1 hy)
  exact ⟨e.1, he⟩
theorem node_mem (hp : L.Perm (E.map (·.2))) {g : Nat} {y : Ls} (hy : (g, y) ∈ E) : y ∈ L := hp.mem_iff.2 (List.mem_map.2 ⟨_, hy, rfl⟩)
theorem Ends.nodeOf (h : Ends w t km om O v E) {g : Nat} {y : Ls} (hy : (g, y) ∈ E) : ∃ i, NodeAt w g y i := by
  obtain ⟨i, hi⟩ := List.mem_iff_getElem?.1 hy
  exact ⟨i, h.node i _ hi⟩
/-- what the map of keys answers -/
theorem look_key (h : TabE w t km om O v E) (hp : L.Perm (E.map (·.2))) {k : Int} {p : Nat} {n : Int} (hk : I64 k) (hpf : Fits p) (hn : I64 n) :
    (∃ g y i, findL L k p n = some y ∧ (g, y) ∈ E ∧ NodeAt w g y i ∧ (Instr.lookup 66 (.map (some km)) (keyV k p n) true).run Tryz.prog w = .ok (.tuple #[Pt g, .bool true]) w ∧ (Instr.lookup 66 (.map (some km)) (keyV k p n) false).run Tryz.prog w = .ok (Pt g) w) ∨
    (findL L k p n = none ∧ (Instr.lookup 66 (.map (some km)) (keyV k p n) true).run Tryz.prog w = .ok (.tuple #[.pointer none, .bool false]) w ∧ (Instr.lookup 66 (.map (some km)) (keyV k p n) false).run Tryz.prog w = .ok (.pointer none) w) := by
  cases e : findL L k p n with
  | some y =>
    left
    have hy := List.mem_of_find?_eq_some e
    have hb := List.find?_some e
    obtain ⟨g, hg⟩ := mem_node hp hy
    obtain ⟨i, hi⟩ := h.ends.nodeOf hg
    have hb := of_decide_eq_true hb
    obtain ⟨a, b⟩ := h.keys.yes KK Tryz.underlying66 zeroPN (key_ok hk hpf hn) (g := g) ⟨y, hg, key_inj.2 ⟨hb.1.symm, hb.2.1.symm, hb.2.2.symm⟩⟩
    exact ⟨g, y, i, rfl, hg, hi, a, b⟩
  | none =>
    right
    obtain ⟨a, b⟩ := h.keys.no KK Tryz.underlying66 zeroPN (key_ok hk hpf hn) (fun g ⟨y, hy, e2⟩ => by
      have := List.find?_eq_none.1 e y (node_mem hp hy)
      obtain ⟨a, b, c⟩ := key_inj.1 e2
      exact this (decide_eq_true ⟨a.symm, b.symm, c.symm⟩))
    exact ⟨rfl, a, b⟩
theorem look_own (h : TabE w t km om O v E) (hp : L.Perm (E.map (·.2))) {k : Int} {c : ByteArray} {ia : Nat} (hk : I64 k) (hc : c.size ≤ maxLen) (hia : ia < 4294967296) :
    (∃ g y i, ofL L k c ia = some y ∧ (g, y) ∈ E ∧ NodeAt w g y i ∧ (Instr.lookup 67 (.map (some om)) (ownV k c ia) true).run Tryz.prog w = .ok (.tuple #[Pt g, .bool true]) w ∧ (Instr.lookup 67 (.map (some om)) (ownV k c ia) false).run Tryz.prog w = .ok (Pt g) w) ∨
    (ofL L k c ia = none ∧ (Instr.lookup 67 (.map (some om)) (ownV k c ia) true).run Tryz.prog w = .ok (.tuple #[.pointer none, .bool false]) w ∧ (Instr.lookup 67 (.map (some om)) (ownV k c ia) false).run Tryz.prog w = .ok (.pointer none) w) := by
  cases e : ofL L k c ia with
  | some y =>
    left
    have hy := List.mem_of_find?_eq_some e
    have hb := List.find?_some e
    obtain ⟨g, hg⟩ := mem_node hp hy
    obtain ⟨i, hi⟩ := h.ends.nodeOf hg
    have hb := of_decide_eq_true hb
    obtain ⟨a, b⟩ := h.owns.yes KO Tryz.underlying67 zeroPN (own_ok hk hc hia) (g := g) ⟨y, hg, hb.1, own_inj.2 ⟨hb.2.1.symm, hb.2.2.1.symm, hb.2.2.2.symm⟩⟩
    exact ⟨g, y, i, rfl, hg, hi, a, b⟩
  | none =>
    right
    obtain ⟨a, b⟩ := h.owns.no KO Tryz.underlying67 zeroPN (own_ok hk hc hia) (fun g ⟨y, hy, hb, e2⟩ => by
      have := List.find?_eq_none.1 e y (node_mem hp hy)
      obtain ⟨a, b, c⟩ := own_inj.1 e2
      exact this (decide_eq_true ⟨hb, a.symm, b.symm, c.symm⟩))
    exact ⟨rfl, a, b⟩
theorem TabE.below (h : TabE w t km om O v E) (hb : Below w.heap.size w w') : TabE w' t km om O v E :=
  ⟨h.ends.below hb, h.keys.keep (KeepM.below hb), h.owns.keep (KeepM.below hb), h.heap, h.good, h.ownK, h.ne⟩
theorem IsTab.below (h : IsTab w t O L) (hb : Below w.heap.size w w') : IsTab w' t O L := by
  obtain ⟨km, om, v, E, h1, h2, h3⟩ := h
  exact ⟨km, om, v, E, h1.below hb, h2, h3⟩
set_option maxRecDepth 100000 in
set_option maxHeartbeats 2000000 in
theorem find_any (h : IsTab w t O L) {k : Int} {p : Nat} {n : Int} (hk : I64 k) (hpf : Fits p) (hn : I64 n) :
    Calls Tryz.prog 17 #[Pt t, .int .i64 k, Pv p n] w (Gives (tellV (findL L k p n)) w) := by
  obtain ⟨km, om, v, E, h1, h2, hp⟩ := h
  obtain ⟨c0, c1, c2⟩ := h1.ends.tabs
  have ht := lt_of_block h1.ends.tab
  have B2 : Below w.heap.size w ((w.alloc (.cells #[.int .u64 (hi p : Nat), .int .u64 (lo p : Nat), .int .i64 n] 27)).alloc (.cells #[.int .i64 0, .int .u64 0, .int .u64 0, .int .i64 0, .int .i64 0, .string ⟨#[]⟩, .int .u32 0, .int .i64 0] 30)).drew := chain (chain (below_alloc _ _) (below_alloc _ _)) (below_drew _)
  have BB := hide B2
  rcases look_key (h1.below B2) hp hk hpf hn with ⟨g, y, i, hf, hg, hnd, _, hrun⟩ | ⟨hf, _, hrun⟩
  · rw [hf]
    have TS := hide (told_some hnd)
    clear h1 h2 hp hf hg hnd hk hpf hn B2
    go_enter Tryz.func17, Tryz.ntmps17
    go_wp2_with fail
    go_region_with (go_at_call 37; refine TS.out.mono ?_; rintro e w1 ⟨rfl, hb1⟩; obtain ⟨hc1, hf1⟩ := bcell hb1)
    all_goals
      go_wp2
      refine bodyPost_ret (v := .tuple #[Lv y, .bool true]) (by simp [results, Tryz.results17, go_sem, hc1]) rfl ⟨rfl, ?_⟩
      have hb := chain BB.out hb1
      exact (((((((hb.setCell (by simp) _).setCell (by simp) _).setCell (by simp) _).setCell (by simp) _).setCell (by simp) _).setCell (by simp) _).setCell (by simp) _).setCell (by simp) _
  · rw [hf]
    clear h1 h2 hp hf hk hpf hn B2
    go_enter Tryz.func17, Tryz.ntmps17
    go_wp2_with fail
    go_region_with (go_at_call 37; refine (told_nil _).mono ?_; rintro e w1 ⟨rfl, hb1⟩; obtain ⟨hc1, hf1⟩ := bcell hb1)
    all_goals
      go_wp2
      refine bodyPost_ret (v := .tuple #[zLv, .bool false]) (by simp [results, Tryz.results17, go_sem, hc1]) rfl ⟨rfl, ?_⟩
      have hb := chain BB.out hb1
      exact (((((((hb.setCell (by simp) _).setCell (by simp) _).setCell (by simp) _).setCell (by simp) _).setCell (by simp) _).setCell (by simp) _).setCell (by simp) _).setCell (by simp) _
set_option maxRecDepth 100000 in
set_option maxHeartbeats 2000000 in
theorem of_any (h : IsTab w t O L) {k : Int} {c : ByteArray} {ia : Nat} (hk : I64 k) (hcl : c.size ≤ maxLen) (hia : ia < 4294967296) :
    Calls Tryz.prog 16 #[Pt t, .int .i64 k, .string c, .int .u32 (ia : Int)] w (Gives (tellV (ofL L k c ia)) w) := by
  obtain ⟨km, om, v, E, h1, h2, hp⟩ := h
  obtain ⟨c0, c1, c2⟩ := h1.ends.tabs
  have ht := lt_of_block h1.ends.tab
  have B2 : Below w.heap.size w (w.alloc (.cells #[.int .i64 0, .int .u64 0, .int .u64 0, .int .i64 0, .int .i64 0, .string ⟨#[]⟩, .int .u32 0, .int .i64 0] 30)) := below_alloc _ _
  have BB := hide B2
  rcases look_own (h1.below B2) hp hk hcl hia with ⟨g, y, i, hf, hg, hnd, _, hrun⟩ | ⟨hf, _, hrun⟩
  · rw [hf]
    have TS := hide (told_some hnd)
    clear h1 h2 hp hf hg hnd hk hcl hia B2
    go_enter Tryz.func16, Tryz.ntmps16
    go_wp2_with (go_at_call 37; refine TS.out.mono ?_; rintro e w1 ⟨rfl, hb1⟩; obtain ⟨hc1, hf1⟩ := bcell hb1)
    all_goals
      refine bodyPost_ret (v := .tuple #[Lv y, .bool true]) (by simp [results, Tryz.results16, go_sem, hc1]) rfl ⟨rfl, ?_⟩
      have hb := chain BB.out hb1
      exact (((((((hb.setCell (by simp) _).setCell (by simp) _).setCell (by simp) _).setCell (by simp) _).setCell (by simp) _).setCell (by simp) _).setCell (by simp) _).setCell (by simp) _
  · rw [hf]
    clear h1 h2 hp hf hk hcl hia B2
    go_enter Tryz.func16, Tryz.ntmps16
    go_wp2_with (go_at_call 37; refine (told_nil _).mono ?_; rintro e w1 ⟨rfl, hb1⟩; obtain ⟨hc1, hf1⟩ := bcell hb1)
    all_goals
      refine bodyPost_ret (v := .tuple #[zLv, .bool false]) (by simp [results, Tryz.results16, go_sem, hc1]) rfl ⟨rfl, ?_⟩
      have hb := chain BB.out hb1
      exact (((((((hb.setCell (by simp) _).setCell (by simp) _).setCell (by simp) _).setCell (by simp) _).setCell (by simp) _).setCell (by simp) _).setCell (by simp) _).setCell (by simp) _
end Go.Proofs.YtpldkgollhbolaaGreat
namespace Go.Proofs.YtpldkgollhbolaaGreat
open Go.RowKit Go.Joins Go.Maps

variable {w w' W W' : World} {t km om : Nat} {O : Nat → Prop} {v : Value} {E : List En} {L : List Ls}
theorem cells9 {b : Nat} {x0 x1 x2 x3 x4 x5 x6 x7 x8 : Value} {ty : TypeId} (h : W.heap[b]? = some (.cells #[x0, x1, x2, x3, x4, x5, x6, x7, x8] ty (0, 0))) :
    W.cell? ⟨b, 0, none⟩ = some x0 ∧ W.cell? ⟨b, 1, none⟩ = some x1 ∧ W.cell? ⟨b, 2, none⟩ = some x2 ∧ W.cell? ⟨b, 3, none⟩ = some x3 ∧ W.cell? ⟨b, 4, none⟩ = some x4 ∧ W.cell? ⟨b, 5, none⟩ = some x5 ∧ W.cell? ⟨b, 6, none⟩ = some x6 ∧ W.cell? ⟨b, 7, none⟩ = some x7 ∧ W.cell? ⟨b, 8, none⟩ = some x8 ∧ ∀ i, W.frozen? ⟨b, i, none⟩ = false :=
  ⟨cell_at h 0, cell_at h 1, cell_at h 2, cell_at h 3, cell_at h 4, cell_at h 5, cell_at h 6, cell_at h 7, cell_at h 8, fun i => free_at h i⟩
abbrev changeC (c : Ch) : Array Value := #[.bool c.gone, .int .i64 c.l.kind, .int .u64 (hi c.l.p : Nat), .int .u64 (lo c.l.p : Nat), .int .i64 c.l.n, .int .i64 c.l.st, .string c.l.cl, .int .u32 (c.l.ia : Int), .int .i64 c.l.un]
abbrev zeroC : Array Value := #[.bool false, .int .i64 0, .int .u64 0, .int .u64 0, .int .i64 0, .int .i64 0, .string ⟨#[]⟩, .int .u32 0, .int .i64 0]
abbrev backC (c : Ch) : Array Value := #[.bool true, .int .i64 c.l.kind, .int .u64 (hi c.l.p : Nat), .int .u64 (lo c.l.p : Nat), .int .i64 c.l.n, .int .i64 0, .string ⟨#[]⟩, .int .u32 0, .int .i64 0]
def ChgPost (w : World) (t km om : Nat) (O : Nat → Prop) (L' : List Ls) (r : Value) (e : Ending) (w' : World) : Prop := e = .returned r ∧ Fr O w w' ∧ ∃ v' E', TabE w' t km om (Gr O w w') v' E' ∧ SrtL L' ∧ L'.Perm (E'.map (·.2))
/-- the blocks that change works on -/
structure MidC (w W : World) (O : Nat → Prop) (c : Ch) (bk : Array Value) : Prop where
  fr : Fr O w W
  box : W.heap[w.heap.size]? = some (.cells (changeC c) 41 (0, 0))
  res : W.heap[w.heap.size + 1]? = some (.cells zeroC 41 (0, 0))
  back : W.heap[w.heap.size + 1 + 1]? = some (.cells bk 41 (0, 0))
theorem MidC.step {c : Ch} {bk : Array Value} (h : MidC w W O c bk) (hb : Below W.heap.size W W') : MidC w W' O c bk :=
  ⟨h.fr.andNo (Fr.ofBelow hb), (Fr.ofBelow hb).keep h.box (fun e => e), (Fr.ofBelow hb).keep h.res (fun e => e), (Fr.ofBelow hb).keep h.back (fun e => e)⟩
theorem MidC.act {c : Ch} {bk : Array Value} (h : MidC w W O c bk) (hlt : ∀ k, O k → k < w.heap.size) {O2 : Nat → Prop} (hf : Fr O2 W W') (hO2 : ∀ k, O2 k → O k ∨ (w.heap.size + 1 + 1 < k)) : MidC w W' O c bk := by
  have hn : ∀ k, w.heap.size ≤ k → k ≤ w.heap.size + 1 + 1 → ¬ O2 k := fun k h1 h2 e => by
    rcases hO2 k e with e | e
    · have := hlt k e; omega
    · omega
  refine ⟨h.fr.trans hf (fun i hi e => ?_), hf.keep h.box (hn _ (by omega) (by omega)), hf.keep h.res (hn _ (by omega) (by omega)), hf.keep h.back (hn _ (by omega) (by omega))⟩
  rcases hO2 i e with e | e
  · exact e
  · omega
theorem MidC.start (w : World) (O : Nat → Prop) (c : Ch) : MidC w (((w.alloc (.cells (changeC c) 41)).alloc (.cells zeroC 41)).alloc (.cells (backC c) 41)) O c (backC c) := by
  have b1 := below_alloc w (.cells (changeC c) 41)
  have b2 := below_alloc (w.alloc (.cells (changeC c) 41)) (.cells zeroC 41)
  have b3 := below_alloc ((w.alloc (.cells (changeC c) 41)).alloc (.cells zeroC 41)) (.cells (backC c) 41)
  refine ⟨(Fr.ofBelow (chain (chain b1 b2) b3)).no, (Fr.ofBelow (chain b2 b3)).keep (heap_alloc_new w _) (fun e => e), (Fr.ofBelow b3).keep (alloc_at _ (by simp)) (fun e => e), alloc_at _ (by simp)⟩
theorem IsTab.mk (h : TabE w t km om O v E) (hs : SrtL L) (hp : L.Perm (E.map (·.2))) : IsTab w t O L := ⟨km, om, v, E, h, hs, hp⟩
abbrev set9 (W : World) (b : Nat) (x0 x1 x2 x3 x4 x5 x6 x7 x8 : Value) : World :=
  ((((((((W.setCell ⟨b, 0, none⟩ x0).setCell ⟨b, 1, none⟩ x1).setCell ⟨b, 2, none⟩ x2).setCell ⟨b, 3, none⟩ x3).setCell ⟨b, 4, none⟩ x4).setCell ⟨b, 5, none⟩ x5).setCell ⟨b, 6, none⟩ x6).setCell ⟨b, 7, none⟩ x7).setCell ⟨b, 8, none⟩ x8
theorem set9_fr (W : World) (b : Nat) (x0 x1 x2 x3 x4 x5 x6 x7 x8 : Value) : Fr (fun k => k = b) W (set9 W b x0 x1 x2 x3 x4 x5 x6 x7 x8) := by
  have f : ∀ (a : World) (i : Nat) (u : Value), Fr (fun k => k = b) a (a.setCell ⟨b, i, none⟩ u) := fun a i u => Fr.set a ⟨b, i, none⟩ u
  have g : ∀ {a c d : World}, Fr (fun k => k = b) a c → Fr (fun k => k = b) c d → Fr (fun k => k = b) a d := fun h k => h.trans k (fun _ _ e => e)
  exact g (g (g (g (g (g (g (g (f _ _ _) (f _ _ _)) (f _ _ _)) (f _ _ _)) (f _ _ _)) (f _ _ _)) (f _ _ _)) (f _ _ _)) (f _ _ _)
theorem set9_size (W : World) (b : Nat) (x0 x1 x2 x3 x4 x5 x6 x7 x8 : Value) : (set9 W b x0 x1 x2 x3 x4 x5 x6 x7 x8).heap.size = W.heap.size := by simp
theorem set9_at {W : World} {b : Nat} {y0 y1 y2 y3 y4 y5 y6 y7 y8 : Value} {ty : TypeId} (h : W.heap[b]? = some (.cells #[y0, y1, y2, y3, y4, y5, y6, y7, y8] ty (0, 0))) (x0 x1 x2 x3 x4 x5 x6 x7 x8 : Value) :
    (set9 W b x0 x1 x2 x3 x4 x5 x6 x7 x8).heap[b]? = some (.cells #[x0, x1, x2, x3, x4, x5, x6, x7, x8] ty (0, 0)) := by
  rw [set_block (set_block (set_block (set_block (set_block (set_block (set_block (set_block (set_block h _ _) _ _) _ _) _ _) _ _) _ _) _ _) _ _) _ _]
  kernel_rfl
theorem Ends.fr (h : Ends w t km om O v E) {S : Nat → Prop} (k : Fr S w w') (hS : ∀ i, O i → ¬ S i) : Ends w' t km om O v E :=
  ⟨k.keep h.tab (hS _ h.own.1), own_fr h.row k (fun i hi => hS i (h.own.2.1 i hi)), fun i e hi => k.keep (h.node i e hi) (hS _ (h.own.2.2 e (List.mem_of_getElem? hi))), h.own, fun i hi => Nat.lt_of_lt_of_le (h.lt i hi) k.size, h.len, h.frm⟩
theorem TabE.fr (h : TabE w t km om O v E) {S : Nat → Prop} (k : Fr S w w') (hS : ∀ i, O i → ¬ S i) : TabE w' t km om O v E :=
  ⟨h.ends.fr k hS, h.keys.fr k (hS _ h.ownK.1), h.owns.fr k (hS _ h.ownK.2), h.heap, h.good, h.ownK, h.ne⟩
theorem IsTab.fr (h : IsTab w t O L) {S : Nat → Prop} (k : Fr S w w') (hS : ∀ i, O i → ¬ S i) : IsTab w' t O L := by
  obtain ⟨km, om, v, E, h, a, b⟩ := h
  exact ⟨km, om, v, E, h.fr k hS, a, b⟩
theorem TabE.wider (h : TabE w t km om O v E) {O2 : Nat → Prop} (h1 : ∀ k, O k → O2 k) (h2 : ∀ k, O2 k → k < w.heap.size) : TabE w t km om O2 v E :=
  ⟨h.ends.wider h1 h2, h.keys, h.owns, h.heap, h.good, ⟨h1 _ h.ownK.1, h1 _ h.ownK.2⟩, h.ne⟩
theorem MidC.backed {c : Ch} {y0 y1 y2 y3 y4 y5 y6 y7 y8 : Value} (h : MidC w W O c #[y0, y1, y2, y3, y4, y5, y6, y7, y8]) (x0 x1 x2 x3 x4 x5 x6 x7 x8 : Value) :
    MidC w (set9 W (w.heap.size + 1 + 1) x0 x1 x2 x3 x4 x5 x6 x7 x8) O c #[x0, x1, x2, x3, x4, x5, x6, x7, x8] := by
  have f := set9_fr W (w.heap.size + 1 + 1) x0 x1 x2 x3 x4 x5 x6 x7 x8
  refine ⟨h.fr.trans f (fun i hi e => by omega), f.keep h.box (by omega), f.keep h.res (by omega), set9_at h.back ..⟩
theorem chg_end {c : Ch} {y0 y1 y2 y3 y4 y5 y6 y7 y8 : Value} (h : MidC w W O c #[y0, y1, y2, y3, y4, y5, y6, y7, y8]) {O2 : Nat → Prop} (ht : TabE W t km om O2 v E) (hs : SrtL L) (hp : L.Perm (E.map (·.2))) (hlt : ∀ k, O k → k < w.heap.size) (hO2 : ∀ k, O2 k → O k ∨ w.heap.size + 1 + 1 < k)
    {r : Value} (hr : r = .agg #[y0, y1, y2, y3, y4, y5, y6, y7, y8]) : ChgPost w t km om O L r (.returned (.agg #[y0, y1, y2, y3, y4, y5, y6, y7, y8])) (set9 W (w.heap.size + 1) y0 y1 y2 y3 y4 y5 y6 y7 y8) := by
  have f := set9_fr W (w.heap.size + 1) y0 y1 y2 y3 y4 y5 y6 y7 y8
  have F : Fr O w (set9 W (w.heap.size + 1) y0 y1 y2 y3 y4 y5 y6 y7 y8) := h.fr.trans f (fun i hi e => by omega)
  have hn : ∀ i, O2 i → ¬ (i = w.heap.size + 1) := fun i hi e => by
    rcases hO2 i hi with e2 | e2
    · have := hlt i e2; omega
    · omega
  refine ⟨by rw [hr], F, v, E, (ht.fr f hn).wider (fun k hk => ?_) (gr_lt hlt F.size), hs, hp⟩
  rcases hO2 k hk with e | e
  · exact Or.inl e
  · exact Or.inr ⟨by omega, by rw [set9_size]; exact ht.ends.lt k hk⟩
theorem look_yes (h : TabE w t km om O v E) {g : Nat} {y : Ls} (hg : (g, y) ∈ E) {x : Ls} (hx : x.ok) (hk : keyB y x = true) : (Instr.lookup 66 (.map (some km)) (KOf x) true).run Tryz.prog w = .ok (.tuple #[Pt g, .bool true]) w := by
  unfold keyB at hk; rw [decide_eq_true_iff] at hk
  exact (h.keys.yes KK Tryz.underlying66 zeroPN (ok_key hx) (g := g) ⟨y, hg, key_inj.2 ⟨hk.1.symm, hk.2.1.symm, hk.2.2.symm⟩⟩).1
theorem look_no (h : TabE w t km om O v E) {x : Ls} (hx : x.ok) (hk : ∀ e ∈ E, keyB e.2 x = false) : (Instr.lookup 66 (.map (some km)) (KOf x) true).run Tryz.prog w = .ok (.tuple #[.pointer none, .bool false]) w :=
  (h.keys.no KK Tryz.underlying66 zeroPN (ok_key hx) (fun g ⟨y, hy, e⟩ => by
    have := hk _ hy
    unfold keyB at this
    obtain ⟨a, b, c⟩ := key_inj.1 e
    rw [decide_eq_true ⟨a.symm, b.symm, c.symm⟩] at this; cases this)).1
theorem gr_wide {k : Nat} (h : Gr O W W' k) (hs : w.heap.size + 1 + 1 < W.heap.size) : O k ∨ w.heap.size + 1 + 1 < k := by
  rcases h with h | h
  · exact Or.inl h
  · exact Or.inr (by omega)
theorem IsTab.wider (h : IsTab w t O L) {O2 : Nat → Prop} (h1 : ∀ k, O k → O2 k) (h2 : ∀ k, O2 k → k < w.heap.size) : IsTab w t O2 L := by
  obtain ⟨km, om, v, E, h, a, b⟩ := h
  exact ⟨km, om, v, E, ⟨h.ends.wider h1 h2, h.keys, h.owns, h.heap, h.good, ⟨h1 _ h.ownK.1, h1 _ h.ownK.2⟩, h.ne⟩, a, b⟩
theorem IsTab.lt (h : IsTab w t O L) : ∀ k, O k → k < w.heap.size := by
  obtain ⟨km, om, v, E, h, a, b⟩ := h
  exact h.ends.lt
theorem IsTab.tabL (h : IsTab w t O L) : TabL L := by
  obtain ⟨km, om, v, E, h, a, b⟩ := h
  exact ⟨h.good.perm b.symm, a⟩
end Go.Proofs.YtpldkgollhbolaaGreat
