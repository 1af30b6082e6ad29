/-
  The contract of a table's change, whole; keys that differ; the contracts of taken and Size. Conditions: the change's lease is one of its type; one that is put is sound and in nobody's way.
  The contract of a table's taken: whether a lease with another key has the lease's owner. Condition: the lease is one of its type.
  The contract of a table's clashes: whether a lease meets one of the table's. Condition: the lease is one of its type.
-/
import Derived.Test.YtpldkgollhbolaaGreatT5
import Derived.Test.YtpldkgollhbolaaGreatT6
import Derived.Test.YtpldkgollhbolaaGreatL0
import Derived.Laws.StructEq
import Derived.Deep.RegionHeld3
namespace Go.Proofs.YtpldkgollhbolaaGreat
open Go.RowKit Go.Joins Go.Maps

variable {w w' W W' : World} {t km om : Nat} {O : Nat → Prop} {v : Value} {E : List En} {L : List Ls}
theorem tchange_any (h : TabE w t km om O v E) (hs : SrtL L) (hp : L.Perm (E.map (·.2))) {c : Ch} (ho : c.l.ok) (hg : c.gone = false → GoodL (c.l :: restL L c.l)) : Calls Tryz.prog 24 #[Pt t, Cv c] w (ChgPost w t km om O (chgL L c) (Cv (backL L c))) := by
  obtain ⟨gone, l⟩ := c
  cases e : L.find? (fun y => keyB y l) with
  | some y =>
    have hy := List.mem_of_find?_eq_some e
    have hk := List.find?_some e
    obtain ⟨g, hgE⟩ := mem_node hp hy
    obtain ⟨i, hi⟩ := List.mem_iff_getElem?.1 hgE
    have hb : ∀ b, backL L ⟨b, l⟩ = ⟨false, y⟩ := fun b => by unfold backL; rw [e]
    rw [hb]
    cases gone with
    | true => exact chg_yes_gone h hs hp ho hi hk
    | false => exact chg_yes_put h hs hp ho hi hk (hg rfl)
  | none =>
    have hk : ∀ x ∈ E, keyB x.2 l = false := fun x hx => by
      have := List.find?_eq_none.1 e x.2 (hp.mem_iff.2 (List.mem_map.2 ⟨x, hx, rfl⟩))
      simpa using this
    have hb : ∀ b, backL L ⟨b, l⟩ = ⟨true, ⟨l.kind, l.p, l.n, 0, ⟨#[]⟩, 0, 0⟩⟩ := fun b => by unfold backL; rw [e]
    rw [hb]
    cases gone with
    | true => exact chg_no_gone h hs hp ho hk
    | false => exact chg_no_put h hs hp ho hk (hg rfl)
theorem hilo {p q : Nat} : p = q ↔ hi p = hi q ∧ lo p = lo q := by
  unfold hi lo; omega
set_option maxRecDepth 100000 in
theorem eq_addr (d : Nat) (a b c e : Int) (w : World) : (Op.equalIn (d + 1 + 1) 25 (.agg #[.int .u64 a, .int .u64 b]) (.agg #[.int .u64 c, .int .u64 e])).run Tryz.prog w = .ok (a == c && b == e) w := by
  rw [run_equalIn_agg w _ 25 _ _ (by kernel_rfl) (by kernel_rfl)]
  simp only [Program.fieldsOf, Tryz.underlying25]
  go_simp
  by_cases h1 : a = c <;> by_cases h2 : b = e <;> simp [h1, h2]
theorem eq_prefix (d : Nat) (a b c e n m : Int) (w : World) : (Op.equalIn (d + 1 + 1 + 1) 27 (.agg #[.int .u64 a, .int .u64 b, .int .i64 n]) (.agg #[.int .u64 c, .int .u64 e, .int .i64 m])).run Tryz.prog w = .ok ((a == c && b == e) && n == m) w := by
  rw [run_equalIn_agg w _ 27 _ _ (by kernel_rfl) (by kernel_rfl)]
  simp only [Program.fieldsOf, Tryz.underlying27]
  have p1 : ∀ w, (part 25 #[.int .u64 a, .int .u64 b, .int .i64 n] 0).run Tryz.prog w = .ok (.agg #[.int .u64 a, .int .u64 b]) w := fun _ => by kernel_rfl
  have p2 : ∀ w, (part 25 #[.int .u64 c, .int .u64 e, .int .i64 m] 0).run Tryz.prog w = .ok (.agg #[.int .u64 c, .int .u64 e]) w := fun _ => by kernel_rfl
  have p3 : ∀ w, (part 3 #[.int .u64 a, .int .u64 b, .int .i64 n] 2).run Tryz.prog w = .ok (.int .i64 n) w := fun _ => by kernel_rfl
  have p4 : ∀ w, (part 3 #[.int .u64 c, .int .u64 e, .int .i64 m] 2).run Tryz.prog w = .ok (.int .i64 m) w := fun _ => by kernel_rfl
  have q : ∀ w, (Op.equalIn (d + 1 + 1) 3 (.int .i64 n) (.int .i64 m)).run Tryz.prog w = .ok (n == m) w := fun _ => by kernel_rfl
  simp only [Op.eqFields, Sem.run_bind, Sem.run_ite, p1, p2, p3, p4, q, eq_addr, Result.andThen_ok]
  generalize (a == c && b == e) = r1
  generalize (n == m) = r2
  cases r1 <;> cases r2 <;> rfl
theorem neq_key (x y : Ls) (w : World) : (binOp .neq 80 (KOf x) (KOf y)).run Tryz.prog w = .ok (.bool (!keyB x y)) w := by
  rw [run_neq_struct, show (10000 : Nat) = 9996 + 1 + 1 + 1 + 1 from rfl, run_equalIn_agg w _ 80 _ _ (by kernel_rfl) (by kernel_rfl)]
  simp only [Program.fieldsOf, Tryz.underlying80]
  have p1 : ∀ (z : Ls) w, (part 3 #[.int .i64 z.kind, .int .u64 (hi z.p : Nat), .int .u64 (lo z.p : Nat), .int .i64 z.n] 0).run Tryz.prog w = .ok (.int .i64 z.kind) w := fun _ _ => by kernel_rfl
  have p2 : ∀ (z : Ls) w, (part 27 #[.int .i64 z.kind, .int .u64 (hi z.p : Nat), .int .u64 (lo z.p : Nat), .int .i64 z.n] 1).run Tryz.prog w = .ok (.agg #[.int .u64 (hi z.p : Nat), .int .u64 (lo z.p : Nat), .int .i64 z.n]) w := fun _ _ => by kernel_rfl
  have q : ∀ w, (Op.equalIn (9996 + 1 + 1 + 1) 3 (.int .i64 x.kind) (.int .i64 y.kind)).run Tryz.prog w = .ok (x.kind == y.kind) w := fun _ => by kernel_rfl
  simp only [Op.eqFields, Sem.run_bind, Sem.run_ite, p1, p2, q, eq_prefix, Result.andThen_ok]
  have K : keyB x y = (x.kind == y.kind && (((hi x.p : Nat) : Int) == ((hi y.p : Nat) : Int) && ((lo x.p : Nat) : Int) == ((lo y.p : Nat) : Int) && x.n == y.n)) := by
    unfold keyB
    rw [Bool.eq_iff_iff, decide_eq_true_iff, hilo]
    simp only [Bool.and_eq_true, beq_iff_eq]
    omega
  rw [K]
  generalize (((hi x.p : Nat) : Int) == ((hi y.p : Nat) : Int) && ((lo x.p : Nat) : Int) == ((lo y.p : Nat) : Int) && x.n == y.n) = r1
  generalize (x.kind == y.kind) = r2
  cases r1 <;> cases r2 <;> rfl
theorem size_any (h : IsTab w t O L) : Calls Tryz.prog 20 #[Pt t] w (Same (.int .i64 (L.length : Int)) w) := by
  obtain ⟨km, om, v, E, h, hs, hp⟩ := h
  have hl : L.length = E.length := by rw [hp.length_eq, List.length_map]
  rw [hl]
  obtain ⟨c0, c1, c2⟩ := h.ends.tabs
  obtain ⟨g, cap, rfl⟩ := h.ends.frm
  clear h hs hp hl
  go_enter Tryz.func20, Tryz.ntmps20
  go_wp2
  go_ret
  exact ⟨rfl, rfl⟩
def takenB (L : List Ls) (l : Ls) : Bool := L.any (fun y => bndB y && ownB l y && !keyB y l)
theorem taken_some {y l : Ls} (hg : GoodL L) (e : ofL L l.kind l.cl l.ia = some y) : takenB L l = !keyB y l := by
  have hy := List.mem_of_find?_eq_some e
  have hb := List.find?_some e
  have hb := of_decide_eq_true hb
  unfold takenB
  rw [Bool.eq_iff_iff, List.any_eq_true]
  constructor
  · rintro ⟨z, hz, hc⟩
    simp only [Bool.and_eq_true] at hc
    obtain ⟨⟨h1, h2⟩, h3⟩ := hc
    have : z = y := by
      refine Classical.byContradiction fun hne => ?_
      have p := rest_one hg hy
      rcases List.mem_cons.1 (p.mem_iff.1 hz) with e2 | e2
      · exact hne e2
      · have ha := (List.pairwise_cons.1 ((apart_perm p).1 hg.apart)).1 z e2
        unfold ownB at h2; rw [decide_eq_true_iff] at h2
        refine ha.2 ⟨decide_eq_true hb.1, h1, decide_eq_true ⟨hb.2.1.trans h2.1, hb.2.2.1.trans h2.2.1, hb.2.2.2.trans h2.2.2⟩⟩
    rw [← this]; exact h3
  · intro hk
    refine ⟨y, hy, ?_⟩
    simp only [Bool.and_eq_true]
    exact ⟨⟨decide_eq_true hb.1, decide_eq_true ⟨hb.2.1.symm, hb.2.2.1.symm, hb.2.2.2.symm⟩⟩, hk⟩
theorem taken_none {l : Ls} (e : ofL L l.kind l.cl l.ia = none) : takenB L l = false := by
  unfold takenB
  rw [List.any_eq_false]
  intro y hy hc
  simp only [Bool.and_eq_true] at hc
  have := List.find?_eq_none.1 e y hy
  obtain ⟨⟨h1, h2⟩, _⟩ := hc
  unfold ownB at h2; rw [decide_eq_true_iff] at h2
  exact this (decide_eq_true ⟨of_decide_eq_true h1, h2.1.symm, h2.2.1.symm, h2.2.2.symm⟩)
end Go.Proofs.YtpldkgollhbolaaGreat
namespace Go.Proofs.YtpldkgollhbolaaGreat
open Go.RowKit Go.Joins Go.Maps

variable {w w' V W W' : World} {t km om : Nat} {O : Nat → Prop} {v : Value} {E : List En} {L : List Ls}
/-- from V on nothing old has changed; the table's cells; a lease's box -/
def KV (V : World) (t km om b : Nat) (l : Ls) (W : World) : Prop := Below V.heap.size V W ∧ W.heap[t]? = V.heap[t]? ∧ W.cell? ⟨t, 0, none⟩ = some (.map (some km)) ∧ W.cell? ⟨t, 1, none⟩ = some (.map (some om)) ∧ BoxL W b l
theorem KV.step {b : Nat} {l : Ls} (h : KV V t km om b l W) (hb : Below W.heap.size W W') : KV V t km om b l W' := by
  refine ⟨chain h.1 hb, ?_, keep_cell hb h.2.2.1, keep_cell hb h.2.2.2.1, h.2.2.2.2.fr (Fr.ofBelow hb) (fun e => e)⟩
  rw [hb.block t (World.block_lt_of_cell? W _ h.2.2.1)]; exact h.2.1
theorem KV.all {b : Nat} {l : Ls} (h : KV V t km om b l W) : KV V t km om b l W ∧ W.cell? ⟨t, 0, none⟩ = some (.map (some km)) ∧ W.cell? ⟨t, 1, none⟩ = some (.map (some om)) ∧ W.cell? ⟨b, 0, none⟩ = some (.int .i64 l.kind) ∧ W.cell? ⟨b, 1, none⟩ = some (.int .u64 (hi l.p : Nat)) ∧ W.cell? ⟨b, 2, none⟩ = some (.int .u64 (lo l.p : Nat)) ∧ W.cell? ⟨b, 3, none⟩ = some (.int .i64 l.n) ∧
    W.cell? ⟨b, 4, none⟩ = some (.int .i64 l.st) ∧ W.cell? ⟨b, 5, none⟩ = some (.string l.cl) ∧ W.cell? ⟨b, 6, none⟩ = some (.int .u32 (l.ia : Int)) ∧ W.cell? ⟨b, 7, none⟩ = some (.int .i64 l.un) :=
  ⟨h, h.2.2.1, h.2.2.2.1, h.2.2.2.2.cells⟩
/-- a node and a lease's box -/
def KN (V : World) (g i b : Nat) (y l : Ls) (W : World) : Prop := Below V.heap.size V W ∧ NodeAt W g y i ∧ BoxL W b l
theorem KN.step {g i b : Nat} {y l : Ls} (h : KN V g i b y l W) (hb : Below W.heap.size W W') : KN V g i b y l W' := ⟨chain h.1 hb, node_fr h.2.1 (Fr.ofBelow hb) (fun e => e), h.2.2.fr (Fr.ofBelow hb) (fun e => e)⟩
theorem KN.all {g i b : Nat} {y l : Ls} (h : KN V g i b y l W) : KN V g i b y l W ∧ W.cell? ⟨g, 0, none⟩ = some (.int .i64 y.kind) ∧ W.cell? ⟨g, 1, none⟩ = some (.int .u64 (hi y.p : Nat)) ∧ W.cell? ⟨g, 2, none⟩ = some (.int .u64 (lo y.p : Nat)) ∧ W.cell? ⟨g, 3, none⟩ = some (.int .i64 y.n) ∧
    W.cell? ⟨g, 4, none⟩ = some (.int .i64 y.st) ∧ W.cell? ⟨g, 5, none⟩ = some (.string y.cl) ∧ W.cell? ⟨g, 6, none⟩ = some (.int .u32 (y.ia : Int)) ∧ W.cell? ⟨g, 7, none⟩ = some (.int .i64 y.un) ∧
    W.cell? ⟨b, 0, none⟩ = some (.int .i64 l.kind) ∧ W.cell? ⟨b, 1, none⟩ = some (.int .u64 (hi l.p : Nat)) ∧ W.cell? ⟨b, 2, none⟩ = some (.int .u64 (lo l.p : Nat)) ∧ W.cell? ⟨b, 3, none⟩ = some (.int .i64 l.n) ∧
    W.cell? ⟨b, 4, none⟩ = some (.int .i64 l.st) ∧ W.cell? ⟨b, 5, none⟩ = some (.string l.cl) ∧ W.cell? ⟨b, 6, none⟩ = some (.int .u32 (l.ia : Int)) ∧ W.cell? ⟨b, 7, none⟩ = some (.int .i64 l.un) := by
  obtain ⟨a0, a1, a2, a3, a4, a5, a6, a7, _⟩ := node_cells h.2.1
  exact ⟨h, a0, a1, a2, a3, a4, a5, a6, a7, h.2.2.cells⟩
set_option maxRecDepth 100000 in
set_option maxHeartbeats 2000000 in
theorem taken_any (h : IsTab w t O L) {l : Ls} (hl : l.ok) : Calls Tryz.prog 47 #[Pt t, Lv l] w (Gives (.bool (takenB L l)) w) := by
  have hgood := h.tabL.good
  obtain ⟨km, om, v, E, h, hs, hp⟩ := h
  have B0 : Hid (Below w.heap.size w (w.alloc (.cells (leaseC l) 30))) := hide (below_alloc _ _)
  have X0 : Hid (BoxL (w.alloc (.cells (leaseC l) 30)) w.heap.size l) := hide (heap_alloc_new w _)
  have H := hide h
  have HP := hide hp
  have HL := hide hl
  cases e : ofL L l.kind l.cl l.ia with
  | some y =>
    rw [taken_some hgood e]
    have HE := hide e
    have R : Hid (∀ W, Below w.heap.size w W → Gives (.bool (!keyB y l)) w (.returned (.bool (!keyB y l))) W) := hide (fun W h => ⟨rfl, h⟩)
    have NQ := fun W => neq_key y l W
    generalize (!keyB y l) = res at *
    clear h hs hp hl hgood e
    go_enter Tryz.func47, Tryz.ntmps47
    go_wp2_with fail
    generalize hV : w.alloc (.cells (leaseC l) 30) = V at *
    clear hV
    have H0 := hide (H.out.below B0.out)
    have K0 : KV V t km om w.heap.size l V := ⟨Below.refl _ _, rfl, H0.out.ends.tabs.1, H0.out.ends.tabs.2.1, X0.out⟩
    obtain ⟨_, c0, c1, b0, b1, b2, b3, b4, b5, b6, b7⟩ := K0.all
    have PK : Hid (∀ w1, Below V.heap.size V w1 → ∃ g i, (Instr.lookup 67 (.map (some om)) (OOf l) true).run Tryz.prog w1 = .ok (.tuple #[Pt g, .bool true]) w1 ∧ NodeAt w1 g y i) := hide (fun w1 hb => by
      rcases look_own (H0.out.below hb) HP.out HL.out.kind HL.out.cl HL.out.ia with ⟨g, z, i, hf, hg, hnd, hrun, _⟩ | ⟨hf, _⟩
      · rw [HE.out] at hf; cases hf
        exact ⟨g, i, hrun, hnd⟩
      · rw [HE.out] at hf; cases hf)
    go_region_held3 (fun W => KV V t km om w.heap.size l W ∧ W.cell? ⟨t, 0, none⟩ = some (.map (some km)) ∧ W.cell? ⟨t, 1, none⟩ = some (.map (some om)) ∧ W.cell? ⟨w.heap.size, 0, none⟩ = some (.int .i64 l.kind) ∧ W.cell? ⟨w.heap.size, 1, none⟩ = some (.int .u64 (hi l.p : Nat)) ∧ W.cell? ⟨w.heap.size, 2, none⟩ = some (.int .u64 (lo l.p : Nat)) ∧ W.cell? ⟨w.heap.size, 3, none⟩ = some (.int .i64 l.n) ∧
        W.cell? ⟨w.heap.size, 4, none⟩ = some (.int .i64 l.st) ∧ W.cell? ⟨w.heap.size, 5, none⟩ = some (.string l.cl) ∧ W.cell? ⟨w.heap.size, 6, none⟩ = some (.int .u32 (l.ia : Int)) ∧ W.cell? ⟨w.heap.size, 7, none⟩ = some (.int .i64 l.un))
      (first
        | exact (K0.step (below_drew _)).all
        | exact K1.all)
      (first
        | (go_at_call 57; refine (ownerOf_any l _).mono ?_; rintro e w1 ⟨rfl, hb1⟩; have K1 := (K0.step (below_drew _)).step hb1; obtain ⟨g, i, hrun, HN⟩ := PK.out _ K1.1; have HN1 := hide HN; clear HN hb1))
    have HB1 := hide (chain B0.out K1.1)
    have HX1 := hide K1.2.2.2.2
    clear hrun c0 c1 b0 b1 b2 b3 b4 b5 b6 b7 PK K0 K1
    have N0 : KN w1 g i w.heap.size y l w1 := ⟨Below.refl _ _, HN1.out, HX1.out⟩
    obtain ⟨_, a0, a1, a2, a3, a4, a5, a6, a7, b0, b1, b2, b3, b4, b5, b6, b7⟩ := N0.all
    go_wp2_with fail
    go_region_held3 (fun W => KN w1 g i w.heap.size y l W ∧ W.cell? ⟨g, 0, none⟩ = some (.int .i64 y.kind) ∧ W.cell? ⟨g, 1, none⟩ = some (.int .u64 (hi y.p : Nat)) ∧ W.cell? ⟨g, 2, none⟩ = some (.int .u64 (lo y.p : Nat)) ∧ W.cell? ⟨g, 3, none⟩ = some (.int .i64 y.n) ∧
    W.cell? ⟨g, 4, none⟩ = some (.int .i64 y.st) ∧ W.cell? ⟨g, 5, none⟩ = some (.string y.cl) ∧ W.cell? ⟨g, 6, none⟩ = some (.int .u32 (y.ia : Int)) ∧ W.cell? ⟨g, 7, none⟩ = some (.int .i64 y.un) ∧
    W.cell? ⟨w.heap.size, 0, none⟩ = some (.int .i64 l.kind) ∧ W.cell? ⟨w.heap.size, 1, none⟩ = some (.int .u64 (hi l.p : Nat)) ∧ W.cell? ⟨w.heap.size, 2, none⟩ = some (.int .u64 (lo l.p : Nat)) ∧ W.cell? ⟨w.heap.size, 3, none⟩ = some (.int .i64 l.n) ∧
    W.cell? ⟨w.heap.size, 4, none⟩ = some (.int .i64 l.st) ∧ W.cell? ⟨w.heap.size, 5, none⟩ = some (.string l.cl) ∧ W.cell? ⟨w.heap.size, 6, none⟩ = some (.int .u32 (l.ia : Int)) ∧ W.cell? ⟨w.heap.size, 7, none⟩ = some (.int .i64 l.un))
      (first
        | exact (N0.step (below_drew _)).all
        | exact N1.all
        | exact N2.all)
      (first
        | (go_at_call 46; refine (keyOf_any y _).mono ?_; rintro e w2 ⟨rfl, hb2⟩; have N1 := (N0.step (below_drew _)).step hb2; clear hb2)
        | (go_at_call 46; refine (keyOf_any l _).mono ?_; rintro e w3 ⟨rfl, hb3⟩; have N2 := N1.step hb3; clear hb3))
    go_wp2
    go_ret
    exact R.out _ (chain HB1.out N2.1)
  | none =>
    rw [taken_none e]
    have HE := hide e
    clear h hs hp hl hgood e
    go_enter Tryz.func47, Tryz.ntmps47
    go_wp2_with fail
    generalize hV : w.alloc (.cells (leaseC l) 30) = V at *
    clear hV
    have H0 := hide (H.out.below B0.out)
    have K0 : KV V t km om w.heap.size l V := ⟨Below.refl _ _, rfl, H0.out.ends.tabs.1, H0.out.ends.tabs.2.1, X0.out⟩
    obtain ⟨_, c0, c1, b0, b1, b2, b3, b4, b5, b6, b7⟩ := K0.all
    have PK : Hid (∀ w1, Below V.heap.size V w1 → (Instr.lookup 67 (.map (some om)) (OOf l) true).run Tryz.prog w1 = .ok (.tuple #[.pointer none, .bool false]) w1) := hide (fun w1 hb => by
      rcases look_own (H0.out.below hb) HP.out HL.out.kind HL.out.cl HL.out.ia with ⟨g, z, i, hf, hg, hnd, hrun, _⟩ | ⟨hf, hrun, _⟩
      · rw [HE.out] at hf; cases hf
      · exact hrun)
    go_region_held3 (fun W => KV V t km om w.heap.size l W ∧ W.cell? ⟨t, 0, none⟩ = some (.map (some km)) ∧ W.cell? ⟨t, 1, none⟩ = some (.map (some om)) ∧ W.cell? ⟨w.heap.size, 0, none⟩ = some (.int .i64 l.kind) ∧ W.cell? ⟨w.heap.size, 1, none⟩ = some (.int .u64 (hi l.p : Nat)) ∧ W.cell? ⟨w.heap.size, 2, none⟩ = some (.int .u64 (lo l.p : Nat)) ∧ W.cell? ⟨w.heap.size, 3, none⟩ = some (.int .i64 l.n) ∧
        W.cell? ⟨w.heap.size, 4, none⟩ = some (.int .i64 l.st) ∧ W.cell? ⟨w.heap.size, 5, none⟩ = some (.string l.cl) ∧ W.cell? ⟨w.heap.size, 6, none⟩ = some (.int .u32 (l.ia : Int)) ∧ W.cell? ⟨w.heap.size, 7, none⟩ = some (.int .i64 l.un))
      (first
        | exact (K0.step (below_drew _)).all
        | exact K1.all)
      (first
        | (go_at_call 57; refine (ownerOf_any l _).mono ?_; rintro e w1 ⟨rfl, hb1⟩; have K1 := (K0.step (below_drew _)).step hb1; have hrun := PK.out _ K1.1; clear hb1))
    have HB1 := hide (chain B0.out K1.1)
    clear hrun c0 c1 b0 b1 b2 b3 b4 b5 b6 b7 PK K0 K1
    go_wp2_with fail
    go_quiet (fail)
    go_wp2
    go_ret
    exact ⟨rfl, chain HB1.out (below_drewN _ _)⟩
end Go.Proofs.YtpldkgollhbolaaGreat
namespace Go.Proofs.YtpldkgollhbolaaGreat
open Go.RowKit Go.Joins Go.Maps

variable {w w' V W W' : World} {t km om : Nat} {O : Nat → Prop} {v : Value} {E : List En} {L : List Ls}
abbrev FnC (f b : Nat) : Value := .func (.func f) #[] #[Pt b]
set_option maxRecDepth 100000 in
set_option maxHeartbeats 2000000 in
theorem clash1_any {g i b : Nat} {y l : Ls} (hn : NodeAt w g y i) (hb : BoxL w b l) (hy : Fits y.p) (hl : Fits l.p) : Calls Tryz.prog 66 #[Pt g, Pt b] w (Gives (.bool (meetL l y)) w) := by
  have N0 : KN w g i b y l w := ⟨Below.refl _ _, hn, hb⟩
  have MT := hide (fun W => meet_any l.kind hl l.n y.kind hy y.n W)
  have R : Hid (∀ W, Below w.heap.size w W → Gives (.bool (meetL l y)) w (.returned (.bool (meetS l.kind l.p l.n y.kind y.p y.n))) W) := hide (fun W h => ⟨rfl, h⟩)
  generalize meetL l y = res at *
  generalize meetS l.kind l.p l.n y.kind y.p y.n = ms at *
  obtain ⟨_, a0, a1, a2, a3, a4, a5, a6, a7, b0, b1, b2, b3, b4, b5, b6, b7⟩ := N0.all
  clear hn hb hy hl
  go_enter Tryz.func66, Tryz.ntmps66
  go_wp2_with fail
  go_region_held3 (fun W => KN w g i b y l W ∧ W.cell? ⟨g, 0, none⟩ = some (.int .i64 y.kind) ∧ W.cell? ⟨g, 1, none⟩ = some (.int .u64 (hi y.p : Nat)) ∧ W.cell? ⟨g, 2, none⟩ = some (.int .u64 (lo y.p : Nat)) ∧ W.cell? ⟨g, 3, none⟩ = some (.int .i64 y.n) ∧
    W.cell? ⟨g, 4, none⟩ = some (.int .i64 y.st) ∧ W.cell? ⟨g, 5, none⟩ = some (.string y.cl) ∧ W.cell? ⟨g, 6, none⟩ = some (.int .u32 (y.ia : Int)) ∧ W.cell? ⟨g, 7, none⟩ = some (.int .i64 y.un) ∧
    W.cell? ⟨b, 0, none⟩ = some (.int .i64 l.kind) ∧ W.cell? ⟨b, 1, none⟩ = some (.int .u64 (hi l.p : Nat)) ∧ W.cell? ⟨b, 2, none⟩ = some (.int .u64 (lo l.p : Nat)) ∧ W.cell? ⟨b, 3, none⟩ = some (.int .i64 l.n) ∧
    W.cell? ⟨b, 4, none⟩ = some (.int .i64 l.st) ∧ W.cell? ⟨b, 5, none⟩ = some (.string l.cl) ∧ W.cell? ⟨b, 6, none⟩ = some (.int .u32 (l.ia : Int)) ∧ W.cell? ⟨b, 7, none⟩ = some (.int .i64 l.un))
    (first
      | exact (N0.step (below_drew _)).all
      | exact N1.all)
    (first
      | (go_at_call 56; refine (MT.out _).mono ?_; rintro e w2 ⟨rfl, hb2⟩; have N1 := (N0.step (below_drew _)).step hb2; clear hb2))
  go_wp2
  go_ret
  exact R.out _ N1.1
def clashE (E : List En) (l : Ls) : Bool := E.any (fun e => meetL l e.2)
theorem clashE_yes {l : Ls} {k : Nat} {e : En} (h : E[k]? = some e) (hc : meetL l e.2 = true) : clashE E l = true := List.any_eq_true.2 ⟨e, List.mem_of_getElem? h, hc⟩
theorem clashE_no {l : Ls} (h : ∀ (k : Nat) (e : En), E[k]? = some e → meetL l e.2 = false) : clashE E l = false := by
  unfold clashE; rw [List.any_eq_false]
  intro e he
  obtain ⟨k, hk⟩ := List.mem_iff_getElem?.1 he
  rw [h k e hk]; simp
def idxE (E : List En) (l : Ls) (i : Int) : Prop := (clashE E l = true ∧ 0 ≤ i) ∨ (clashE E l = false ∧ i = -1)
set_option maxRecDepth 100000 in
set_option maxHeartbeats 2000000 in
theorem idxE_any (h : Ends w t km om O v E) (hf : ∀ e ∈ E, Fits e.2.p) {b : Nat} {l : Ls} (hbx : BoxL w b l) (hl : Fits l.p) :
    Calls Tryz.prog 89 #[v, FnC 66 b] w (fun e w' => ∃ i : Int, e = .returned (.int .i64 i) ∧ idxE E l i ∧ Below w.heap.size w w') := by
  obtain ⟨g, cap, rfl⟩ := h.frm
  have HE := hide h
  have HF := hide hf
  have HX := hide hbx
  have HL := hide hl
  have HM : E.length ≤ 9223372036854775807 := by have := h.len; omega
  clear h hf hbx hl
  go_enter Tryz.func89, Tryz.ntmps89
  go_wp2_with fail
  go_loopw [8] (fun i wr => ∃ k : Nat, k ≤ E.length ∧ i = .int .i64 (k : Nat) ∧ Hid (∀ (j : Nat) (x : En), j < k → E[j]? = some x → meetL l x.2 = false) ∧ Below w.heap.size w wr) (fun i _ => E.length - (intOf i).toNat)
  case atStart => exact ⟨0, Nat.zero_le _, rfl, hide (fun j x h => absurd h (Nat.not_lt_zero _)), Below.refl _ _⟩
  case round =>
    obtain ⟨k, hk, rfl, HG, HB⟩ := hrel
    by_cases hlt : k < E.length
    · obtain ⟨x, hx⟩ : ∃ x, E[k]? = some x := ⟨_, List.getElem?_eq_getElem hlt⟩
      have HEr := hide (HE.out.below HB)
      have c1 := HEr.out.at hx
      have W1 := hide (clash1_any (HEr.out.node _ _ hx) (HX.out.fr (Fr.ofBelow HB) (fun e => e)) (HF.out x (List.mem_of_getElem? hx)) HL.out)
      have hlt2 : (k : Int) < (E.length : Int) := by omega
      have hk0 : (0 : Int) ≤ (k : Int) := by omega
      cases hcx : meetL l x.2 with
      | false =>
        have HX2 := hide hx
        have HC := hide hcx
        rw [hcx] at W1
        clear hx hcx
        go_wp2_with fail
        refine W1.out.mono ?_
        rintro e w2 ⟨rfl, hb2⟩
        clear c1
        go_wp2
        go_roundw
        case rel =>
          refine ⟨k + 1, hlt, by go_num, hide (fun j y hj hy => ?_), HB.trans (hb2.mono HB.size)⟩
          by_cases e : j = k
          · subst e
            have e2 := HX2.out
            rw [hy] at e2
            cases e2
            exact HC.out
          · exact HG.out j y (by omega) hy
        case measure => simp [intOf]; omega
      | true =>
        have K := hide (clashE_yes hx hcx)
        rw [hcx] at W1
        clear hx hcx
        go_wp2_with fail
        refine W1.out.mono ?_
        rintro e w2 ⟨rfl, hb2⟩
        clear c1
        go_wp2
        go_ret
        exact ⟨k, rfl, Or.inl ⟨K.out, by omega⟩, HB.trans (hb2.mono HB.size)⟩
    · have K := hide (clashE_no (E := E) (l := l) (fun j x hj => HG.out j x (by have := (List.getElem?_eq_some_iff.1 hj).1; omega) hj))
      have hlt2 : ¬ (k : Int) < (E.length : Int) := by omega
      go_wp2
      go_ret
      exact ⟨-1, rfl, Or.inr ⟨K.out, rfl⟩, HB⟩
set_option maxRecDepth 100000 in
theorem containsE_any (h : Ends w t km om O v E) (hf : ∀ e ∈ E, Fits e.2.p) {b : Nat} {l : Ls} (hbx : BoxL w b l) (hl : Fits l.p) :
    Calls Tryz.prog 65 #[v, FnC 66 b] w (Gives (.bool (clashE E l)) w) := by
  have I := hide (idxE_any h hf hbx hl)
  clear h hf hbx hl
  go_enter Tryz.func65, Tryz.ntmps65
  go_wp2_with fail
  refine I.out.mono ?_
  rintro e w' ⟨i, rfl, hi, hb⟩
  have HI := hide hi
  clear hi
  go_wp2
  go_ret
  refine ⟨congrArg Ending.returned (bool_eq ?_), hb⟩
  rcases HI.out with ⟨h1, h2⟩ | ⟨h1, rfl⟩
  · rw [h1]; simpa using h2
  · rw [h1]; rfl
set_option maxRecDepth 100000 in
theorem clashes_any (h : IsTab w t O L) {l : Ls} (hl : l.ok) : Calls Tryz.prog 48 #[Pt t, Lv l] w (Gives (.bool (clashL L l)) w) := by
  obtain ⟨km, om, v, E, h, hs, hp⟩ := h
  have e : clashL L l = clashE E l := by
    unfold clashL clashE
    rw [Bool.eq_iff_iff, List.any_eq_true, List.any_eq_true]
    constructor
    · rintro ⟨y, hy, hm⟩
      obtain ⟨z, hz, rfl⟩ := List.mem_map.1 (hp.mem_iff.1 hy)
      exact ⟨z, hz, hm⟩
    · rintro ⟨z, hz, hm⟩
      exact ⟨z.2, hp.mem_iff.2 (List.mem_map.2 ⟨z, hz, rfl⟩), hm⟩
  rw [e]
  have B0 := below_alloc w (.cells (leaseC l) 30)
  have H0 := hide (h.ends.below B0)
  have C := hide (containsE_any H0.out (fun e he => (h.good.ok e.2 (List.mem_map.2 ⟨e, he, rfl⟩)).1.p) (show BoxL (w.alloc (.cells (leaseC l) 30)) w.heap.size l from heap_alloc_new w _) hl.p)
  obtain ⟨c0, c1, c2⟩ := h.ends.tabs
  have ht := lt_of_block h.ends.tab
  have HB := hide B0
  clear h hs hp e B0 hl
  generalize clashE E l = res at *
  go_enter Tryz.func48, Tryz.ntmps48
  go_wp2_with fail
  refine C.out.mono ?_
  rintro e w2 ⟨rfl, hb2⟩
  go_wp2
  go_ret
  exact ⟨rfl, chain HB.out hb2⟩
end Go.Proofs.YtpldkgollhbolaaGreat
