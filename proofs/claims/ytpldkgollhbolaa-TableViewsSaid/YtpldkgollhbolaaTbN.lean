/-
  The contract of a table's add: one lease more. Conditions: the lease is sound, and meets, and shares an owner with, none of the table's.
-/
import Derived.Test.YtpldkgollhbolaaTbA
import Derived.Deep.RegionWith
namespace Go.Proofs.Ytpldkgollhbolaa
open Go.RowKit Go.Joins Go.Maps

variable {w w' W W' : World} {t km om : Nat} {O : Nat → Prop} {v : Value} {E : List En}
theorem Ends.turned {m : Nat} (h : Ends W t km om O v E) (hm : ∃ es c, W.heap[m]? = some (.map es c)) (f : Fr (fun k => k = m) W W') : Ends W' t km om O v E := by
  obtain ⟨es, c, hm⟩ := hm
  have ne : ∀ {k : Nat} {cur : Array Value} {ty : TypeId} {fz : Nat × Nat}, W.heap[k]? = some (.cells cur ty fz) → ¬ k = m := fun hk e => by
    rw [e, hm] at hk; simp at hk
  refine ⟨f.keep h.tab (ne h.tab), own_fr h.row f (fun k hk e => ?_), fun i e hi => f.keep (h.node i e hi) (ne (h.node i e hi)), h.own, fun k hk => Nat.lt_of_lt_of_le (h.lt k hk) f.size, h.len, h.frm⟩
  obtain ⟨g, cap, rfl⟩ := h.frm
  obtain ⟨cur, hg⟩ := h.rowT
  cases hk
  exact ne hg e
abbrev leaseC (x : Ls) : Array Value := #[.int .i64 x.kind, .int .u64 (hi x.p : Nat), .int .u64 (lo x.p : Nat), .int .i64 x.n, .int .i64 x.st, .string x.cl, .int .u32 (x.ia : Int), .int .i64 x.un]
/-- a lease in a block of its own -/
def BoxL (W : World) (b : Nat) (x : Ls) : Prop := W.heap[b]? = some (.cells (leaseC x) 36 (0, 0))
theorem BoxL.fr {S : Nat → Prop} {b : Nat} {x : Ls} (h : BoxL W b x) (f : Fr S W W') (hn : ¬ S b) : BoxL W' b x := f.keep h hn
theorem BoxL.cells {b : Nat} {x : Ls} (h : BoxL W b x) : W.cell? ⟨b, 0, none⟩ = some (.int .i64 x.kind) ∧ W.cell? ⟨b, 1, none⟩ = some (.int .u64 (hi x.p : Nat)) ∧ W.cell? ⟨b, 2, none⟩ = some (.int .u64 (lo x.p : Nat)) ∧ W.cell? ⟨b, 3, none⟩ = some (.int .i64 x.n) ∧
    W.cell? ⟨b, 4, none⟩ = some (.int .i64 x.st) ∧ W.cell? ⟨b, 5, none⟩ = some (.string x.cl) ∧ W.cell? ⟨b, 6, none⟩ = some (.int .u32 (x.ia : Int)) ∧ W.cell? ⟨b, 7, none⟩ = some (.int .i64 x.un) :=
  ⟨cell_at h 0, cell_at h 1, cell_at h 2, cell_at h 3, cell_at h 4, cell_at h 5, cell_at h 6, cell_at h 7⟩
theorem Ends.tabs (h : Ends W t km om O v E) : W.cell? ⟨t, 0, none⟩ = some (.map (some km)) ∧ W.cell? ⟨t, 1, none⟩ = some (.map (some om)) ∧ W.cell? ⟨t, 2, none⟩ = some v := ⟨cell_at h.tab 0, cell_at h.tab 1, cell_at h.tab 2⟩
theorem rk_put {x : Ls} {g0 : Nat} (hk : ∀ e ∈ E, keyB e.2 x = false) (key : Value) (g : Nat) : ((key = KOf x ∧ g = g0) ∨ (key ≠ KOf x ∧ RK E key g)) ↔ RK ((g0, x) :: E) key g := by
  constructor
  · rintro (⟨rfl, rfl⟩ | ⟨_, y, hy, rfl⟩)
    · exact ⟨x, List.mem_cons_self, rfl⟩
    · exact ⟨y, List.mem_cons_of_mem _ hy, rfl⟩
  · rintro ⟨y, hy, rfl⟩
    rcases List.mem_cons.1 hy with e | hy
    · cases e; exact Or.inl ⟨rfl, rfl⟩
    · refine Or.inr ⟨fun e => ?_, y, hy, rfl⟩
      have := key_inj.1 e
      have h2 := hk _ hy
      unfold keyB at h2
      rw [decide_eq_true this] at h2; cases h2
theorem ro_put {x : Ls} {g0 : Nat} (hb : x.st = 1) (hk : ∀ e ∈ E, ¬ (bndB x = true ∧ bndB e.2 = true ∧ ownB x e.2 = true)) (key : Value) (g : Nat) : ((key = OOf x ∧ g = g0) ∨ (key ≠ OOf x ∧ RO E key g)) ↔ RO ((g0, x) :: E) key g := by
  constructor
  · rintro (⟨rfl, rfl⟩ | ⟨_, y, hy, hyb, rfl⟩)
    · exact ⟨x, List.mem_cons_self, hb, rfl⟩
    · exact ⟨y, List.mem_cons_of_mem _ hy, hyb, rfl⟩
  · rintro ⟨y, hy, hyb, rfl⟩
    rcases List.mem_cons.1 hy with e | hy
    · cases e; exact Or.inl ⟨rfl, rfl⟩
    · refine Or.inr ⟨fun e => ?_, y, hy, hyb, rfl⟩
      obtain ⟨a, b, c⟩ := own_inj.1 e
      refine hk _ hy ⟨decide_eq_true hb, decide_eq_true hyb, decide_eq_true ⟨a.symm, b.symm, c.symm⟩⟩
theorem ro_not {x : Ls} {g0 : Nat} (hb : x.st ≠ 1) (key : Value) (g : Nat) : RO E key g ↔ RO ((g0, x) :: E) key g := by
  constructor
  · rintro ⟨y, hy, hyb, rfl⟩; exact ⟨y, List.mem_cons_of_mem _ hy, hyb, rfl⟩
  · rintro ⟨y, hy, hyb, rfl⟩
    rcases List.mem_cons.1 hy with e | hy
    · cases e; exact (hb hyb).elim
    · exact ⟨y, hy, hyb, rfl⟩
theorem rk_perm {E F : List En} (h : E.Perm F) (key : Value) (g : Nat) : RK E key g ↔ RK F key g := ⟨fun ⟨x, a, b⟩ => ⟨x, h.mem_iff.1 a, b⟩, fun ⟨x, a, b⟩ => ⟨x, h.mem_iff.2 a, b⟩⟩
theorem ro_perm {E F : List En} (h : E.Perm F) (key : Value) (g : Nat) : RO E key g ↔ RO F key g := ⟨fun ⟨x, a, b⟩ => ⟨x, h.mem_iff.1 a, b⟩, fun ⟨x, a, b⟩ => ⟨x, h.mem_iff.2 a, b⟩⟩
theorem zeroPN (W : World) : (zeroValue 67).run Try.prog W = .ok (.pointer none) W := by kernel_rfl
theorem ok_key {x : Ls} (h : x.ok) : ∃ l, keyOf Try.prog 75 (KOf x) = some l := key_ok h.kind h.p h.n
theorem ok_own {x : Ls} (h : x.ok) : ∃ l, keyOf Try.prog 77 (OOf x) = some l := own_ok h.kind h.cl h.ia
theorem put_key (h : MapK W 75 km (RK E)) {x : Ls} (hx : x.ok) (g0 : Nat) (hl : E.length ≤ 2000) (hk : ∀ e ∈ E, keyB e.2 x = false) :
    ∃ W', (Instr.mapUpdate 68 (.map (some km)) (KOf x) (Pt g0)).run Try.prog W = .ok () W' ∧ MapK W' 75 km (RK ((g0, x) :: E)) ∧ Fr (fun k => k = km) W W' := by
  obtain ⟨W', h1, h2, h3⟩ := h.put KK Try.underlying68 (ok_key hx) g0 (E.map (fun e => (KOf e.2, e.1))) (fun key g ⟨y, hy, e⟩ => by rw [e]; exact List.mem_map.2 ⟨_, hy, rfl⟩) (by rw [List.length_map]; unfold maxLen; omega)
  exact ⟨W', h1, h2.iff (rk_put hk), Fr.turned h3⟩
theorem put_own (h : MapK W 77 om (RO E)) {x : Ls} (hx : x.ok) (g0 : Nat) (hl : E.length ≤ 2000) (hb : x.st = 1) (hk : ∀ e ∈ E, ¬ (bndB x = true ∧ bndB e.2 = true ∧ ownB x e.2 = true)) :
    ∃ W', (Instr.mapUpdate 69 (.map (some om)) (OOf x) (Pt g0)).run Try.prog W = .ok () W' ∧ MapK W' 77 om (RO ((g0, x) :: E)) ∧ Fr (fun k => k = om) W W' := by
  obtain ⟨W', h1, h2, h3⟩ := h.put KO Try.underlying69 (ok_own hx) g0 (E.map (fun e => (OOf e.2, e.1))) (fun key g ⟨y, hy, _, e⟩ => by rw [e]; exact List.mem_map.2 ⟨_, hy, rfl⟩) (by rw [List.length_map]; unfold maxLen; omega)
  exact ⟨W', h1, h2.iff (ro_put hb hk), Fr.turned h3⟩
/-- in the midst of add: the lease's box is block b, its node the next one -/
structure MidA (w W : World) (t km om : Nat) (O : Nat → Prop) (v : Value) (E : List En) (b : Nat) (x : Ls) : Prop where
  fr : Fr O w W
  ends : Ends W t km om O v E
  box : BoxL W b x
  node : NodeAt W (b + 1) x 0
theorem MidA.step {b : Nat} {x : Ls} (h : MidA w W t km om O v E b x) (hb : Below W.heap.size W W') : MidA w W' t km om O v E b x :=
  ⟨h.fr.andNo (Fr.ofBelow hb), h.ends.below hb, h.box.fr (Fr.ofBelow hb) (fun e => e), node_fr h.node (Fr.ofBelow hb) (fun e => e)⟩
theorem MidA.turn {b m : Nat} {x : Ls} (h : MidA w W t km om O v E b x) (hm : ∃ es c, W.heap[m]? = some (.map es c)) (hO : O m) (f : Fr (fun k => k = m) W W') : MidA w W' t km om O v E b x := by
  refine ⟨h.fr.trans f (fun i _ e => by rw [e]; exact hO), h.ends.turned hm f, ?_, ?_⟩
  · obtain ⟨es, c, hm⟩ := hm
    exact h.box.fr f (fun e => by have := h.box; unfold BoxL at this; rw [e, hm] at this; simp at this)
  · obtain ⟨es, c, hm⟩ := hm
    exact node_fr h.node f (fun e => by have := h.node; unfold NodeAt at this; rw [e, hm] at this; simp at this)
theorem MidA.start {x : Ls} (h : Ends w t km om O v E) : MidA w ((w.alloc (.cells (leaseC x) 36)).alloc (.cells (nodeC x 0) 82)) t km om O v E w.heap.size x := by
  have b1 := below_alloc w (.cells (leaseC x) 36)
  have b2 := below_alloc (w.alloc (.cells (leaseC x) 36)) (.cells (nodeC x 0) 82)
  refine ⟨(Fr.ofBelow (chain b1 b2)).no, h.below (chain b1 b2), (show BoxL (w.alloc _) _ _ from heap_alloc_new w _).fr (Fr.ofBelow b2) (fun e => e), ?_⟩
  exact alloc_at _ (by simp)
end Go.Proofs.Ytpldkgollhbolaa
