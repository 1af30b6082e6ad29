/-
  The heap of a table's leases in memory: what it means, its methods Len, Less, Swap. No condition beyond those in each theorem's own statement.
-/
import Derived.Test.YtpldkgollhbolaaTbB
import Derived.Test.YtpldkgollhbolaaTbM
import Derived.Test.YtpldkgollhbolaaTbH
namespace Go.Proofs.Ytpldkgollhbolaa
open Go.RowKit Go.Joins Go.Maps

/-- a lease, and the block of its node -/
abbrev En := Nat × Ls
def nodeC (x : Ls) (i : Nat) : Array Value := #[.int .i64 x.kind, .int .u64 (hi x.p : Nat), .int .u64 (lo x.p : Nat), .int .i64 x.n, .int .i64 x.st, .string x.cl, .int .u32 (x.ia : Int), .int .i64 x.un, .int .i64 (i : Int)]
def NodeAt (w : World) (g : Nat) (x : Ls) (i : Nat) : Prop := w.heap[g]? = some (.cells (nodeC x i) 82 (0, 0))
def rowE (E : List En) : List Value := E.map (fun e => Pt e.1)
def tabC (km om : Nat) (v : Value) : Array Value := #[.map (some km), .map (some om), v]
structure Ends (w : World) (t km om : Nat) (O : Nat → Prop) (v : Value) (E : List En) : Prop where
  tab : w.heap[t]? = some (.cells (tabC km om v) 73 (0, 0))
  row : w.ownsRow 0 67 1 v E.length (rowE E)
  node : ∀ i e, E[i]? = some e → NodeAt w e.1 e.2 i
  own : O t ∧ (∀ k, v.ownBlock = some k → O k) ∧ ∀ e ∈ E, O e.1
  lt : ∀ k, O k → k < w.heap.size
  len : E.length ≤ 2000
  frm : ∃ g cap, v = .slice (some ⟨g, 0, none⟩) E.length cap
def unE (E : List En) (k : Nat) : Int := match E[k]? with | some e => e.2.un | none => 0
theorem unE_some {E : List En} {k : Nat} {e : En} (h : E[k]? = some e) : unE E k = e.2.un := by unfold unE; rw [h]
/-- a call with this one result that draws alone -/
def Drew (v : Value) (w : World) (e : Ending) (w' : World) : Prop := e = .returned v ∧ ∃ n, w' = w.drewN n
/-- what is a map stays -/
def KeepM (w w' : World) : Prop := ∀ (k : Nat) (es : Array MapEntry) (c : Nat), w.heap[k]? = some (.map es c) → w'.heap[k]? = some (.map es c)
theorem KeepM.refl (w : World) : KeepM w w := fun _ _ _ h => h
theorem KeepM.trans {a b c : World} (h : KeepM a b) (k : KeepM b c) : KeepM a c := fun i es n hi => k i es n (h i es n hi)
theorem KeepM.set (w : World) (a : Go.Addr) (u : Value) : KeepM w (w.setCell a u) := fun i es n hi => by
  unfold World.setCell
  show (w.heap.modify a.block _)[i]? = _
  rw [Array.getElem?_modify]
  split
  · rw [hi]; rfl
  · exact hi
theorem KeepM.below {w w' : World} (h : Below w.heap.size w w') : KeepM w w' := fun i es n hi => by rw [h.block i (lt_of_block hi), hi]
/-- only O's blocks are written, no map among them -/
structure Hp (O : Nat → Prop) (w w' : World) : Prop where
  fr : Fr O w w'
  maps : KeepM w w'
theorem Hp.refl (O : Nat → Prop) (w : World) : Hp O w w := ⟨Fr.refl _ _, KeepM.refl _⟩
theorem Hp.trans {O : Nat → Prop} {a b c : World} (h : Hp O a b) (k : Hp (Gr O a b) b c) : Hp O a c := ⟨fr_gr h.fr k.fr, h.maps.trans k.maps⟩
theorem Hp.below {O : Nat → Prop} {w w' : World} (h : Below w.heap.size w w') : Hp O w w' := ⟨(Fr.ofBelow h).no, KeepM.below h⟩
theorem Hp.drewN (O : Nat → Prop) (w : World) (n : Nat) : Hp O w (w.drewN n) := Hp.below (below_drewN w n)
theorem Hp.set {O : Nat → Prop} (w : World) (a : Go.Addr) (u : Value) (h : O a.block) : Hp O w (w.setCell a u) := ⟨(Fr.set w a u).mono (fun _ _ e => e ▸ h), KeepM.set w a u⟩

variable {w w' : World} {t km om : Nat} {O : Nat → Prop} {v : Value} {E : List En}
theorem Ends.cell (h : Ends w t km om O v E) : w.cell? ⟨t, 2, none⟩ = some v := by rw [cell_at h.tab]; rfl
theorem Ends.free (h : Ends w t km om O v E) : w.frozen? ⟨t, 2, none⟩ = false := free_at h.tab 2
theorem Ends.at {g cap : Nat} (h : Ends w t km om O (.slice (some ⟨g, 0, none⟩) E.length cap) E) {i : Nat} {e : En} (hi : E[i]? = some e) : w.cell? ⟨g, i, none⟩ = some (Pt e.1) := by
  have hl := (List.getElem?_eq_some_iff.1 hi).1
  rw [h.row.cellAt i (by omega)]
  unfold rowE
  rw [List.getElem?_map, hi]; rfl
theorem Ends.rowFree {g cap : Nat} (h : Ends w t km om O (.slice (some ⟨g, 0, none⟩) E.length cap) E) (i : Nat) : w.frozen? ⟨g, i, none⟩ = false := h.row.frozenAt i
theorem node_at {g i : Nat} {x : Ls} (h : NodeAt w g x i) (k : Nat) : w.cell? ⟨g, k, none⟩ = (nodeC x i)[k]? := cell_at h k
theorem node_free {g i : Nat} {x : Ls} (h : NodeAt w g x i) (k : Nat) : w.frozen? ⟨g, k, none⟩ = false := free_at h k
theorem Ends.below (h : Ends w t km om O v E) (hb : Below w.heap.size w w') : Ends w' t km om O v E :=
  ⟨by rw [hb.block _ (lt_of_block h.tab)]; exact h.tab, own_fr h.row (Fr.ofBelow hb) (fun _ _ e => e), fun i e hi => by unfold NodeAt; rw [hb.block _ (lt_of_block (h.node i e hi))]; exact h.node i e hi, h.own, fun k hk => Nat.lt_of_lt_of_le (h.lt k hk) hb.size, h.len, h.frm⟩
theorem Ends.gr (h : Ends w t km om O v E) (hs : w.heap.size ≤ w'.heap.size) (k : Ends w' t km om O v E) : Ends w' t km om (Gr O w w') v E :=
  ⟨k.tab, k.row, k.node, ⟨Or.inl k.own.1, fun i hi => Or.inl (k.own.2.1 i hi), fun e he => Or.inl (k.own.2.2 e he)⟩, gr_lt h.lt hs, k.len, k.frm⟩

theorem len_any (h : Ends w t km om O v E) : Calls Try.prog 103 #[v] w (Same (.int .i64 (E.length : Int)) w) := by
  have hl := h.len
  obtain ⟨g, cap, rfl⟩ := h.frm
  clear h
  go_enter Try.func103, Try.ntmps103
  go_wp2
  go_ret
  exact ⟨rfl, rfl⟩
set_option maxHeartbeats 1000000 in
theorem less_any (h : Ends w t km om O v E) (a b : Int) (ha0 : 0 ≤ a) (ha1 : a < E.length) (hb0 : 0 ≤ b) (hb1 : b < E.length) :
    Calls Try.prog 104 #[v, .int .i64 a, .int .i64 b] w (Drew (.bool (decide (unE E a.toNat < unE E b.toNat))) w) := by
  obtain ⟨i, rfl⟩ := Int.eq_ofNat_of_zero_le ha0
  obtain ⟨j, rfl⟩ := Int.eq_ofNat_of_zero_le hb0
  rw [Int.toNat_natCast, Int.toNat_natCast]
  have hl := h.len
  obtain ⟨x, hx⟩ : ∃ x, E[i]? = some x := ⟨_, List.getElem?_eq_getElem (by omega)⟩
  obtain ⟨y, hy⟩ : ∃ y, E[j]? = some y := ⟨_, List.getElem?_eq_getElem (by omega)⟩
  rw [unE_some hx, unE_some hy]
  obtain ⟨g, cap, rfl⟩ := h.frm
  have c1 := h.at hx
  have c2 := h.at hy
  have c3 : w.cell? ⟨x.1, 7, none⟩ = some (.int .i64 x.2.un) := by rw [node_at (h.node _ _ hx)]; rfl
  have c4 : w.cell? ⟨y.1, 7, none⟩ = some (.int .i64 y.2.un) := by rw [node_at (h.node _ _ hy)]; rfl
  have R : Hid (∀ (b : Bool) (n : Nat), decide (x.2.un < y.2.un) = b → Drew (.bool (decide (x.2.un < y.2.un))) w (.returned (.bool b)) (w.drewN n)) := hide (fun b n e => ⟨by rw [e], n, rfl⟩)
  generalize x.2.un = u1 at *
  generalize y.2.un = u2 at *
  generalize x.1 = g1 at *
  generalize y.1 = g2 at *
  clear h hx hy
  go_enter Try.func104, Try.ntmps104
  go_wp2
  go_quiet (fail)
  go_wp2
  go_ret
  exact R.out _ _ rfl
end Go.Proofs.Ytpldkgollhbolaa
