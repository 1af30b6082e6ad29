/-
  The contract of a table's taken: whether a lease with another key has the lease's owner. Condition: the lease is one of its type.
-/
import Derived.Test.YtpldkgollhbolaaTbQ
namespace Go.Proofs.Ytpldkgollhbolaa
open Go.RowKit Go.Joins Go.Maps

variable {w w' V W W' : World} {t km om : Nat} {O : Nat → Prop} {v : Value} {E : List En} {L : List Ls}
/-- from V on nothing old has changed; the table's cells; a lease's box -/
def KV (V : World) (t km om b : Nat) (l : Ls) (W : World) : Prop := Below V.heap.size V W ∧ W.heap[t]? = V.heap[t]? ∧ W.cell? ⟨t, 0, none⟩ = some (.map (some km)) ∧ W.cell? ⟨t, 1, none⟩ = some (.map (some om)) ∧ BoxL W b l
theorem KV.step {b : Nat} {l : Ls} (h : KV V t km om b l W) (hb : Below W.heap.size W W') : KV V t km om b l W' := by
  refine ⟨chain h.1 hb, ?_, keep_cell hb h.2.2.1, keep_cell hb h.2.2.2.1, h.2.2.2.2.fr (Fr.ofBelow hb) (fun e => e)⟩
  rw [hb.block t (World.block_lt_of_cell? W _ h.2.2.1)]; exact h.2.1
theorem KV.all {b : Nat} {l : Ls} (h : KV V t km om b l W) : KV V t km om b l W ∧ W.cell? ⟨t, 0, none⟩ = some (.map (some km)) ∧ W.cell? ⟨t, 1, none⟩ = some (.map (some om)) ∧ W.cell? ⟨b, 0, none⟩ = some (.int .i64 l.kind) ∧ W.cell? ⟨b, 1, none⟩ = some (.int .u64 (hi l.p : Nat)) ∧ W.cell? ⟨b, 2, none⟩ = some (.int .u64 (lo l.p : Nat)) ∧ W.cell? ⟨b, 3, none⟩ = some (.int .i64 l.n) ∧
    W.cell? ⟨b, 4, none⟩ = some (.int .i64 l.st) ∧ W.cell? ⟨b, 5, none⟩ = some (.string l.cl) ∧ W.cell? ⟨b, 6, none⟩ = some (.int .u32 (l.ia : Int)) ∧ W.cell? ⟨b, 7, none⟩ = some (.int .i64 l.un) :=
  ⟨h, h.2.2.1, h.2.2.2.1, h.2.2.2.2.cells⟩
/-- a node and a lease's box -/
def KN (V : World) (g i b : Nat) (y l : Ls) (W : World) : Prop := Below V.heap.size V W ∧ NodeAt W g y i ∧ BoxL W b l
theorem KN.step {g i b : Nat} {y l : Ls} (h : KN V g i b y l W) (hb : Below W.heap.size W W') : KN V g i b y l W' := ⟨chain h.1 hb, node_fr h.2.1 (Fr.ofBelow hb) (fun e => e), h.2.2.fr (Fr.ofBelow hb) (fun e => e)⟩
theorem KN.all {g i b : Nat} {y l : Ls} (h : KN V g i b y l W) : KN V g i b y l W ∧ W.cell? ⟨g, 0, none⟩ = some (.int .i64 y.kind) ∧ W.cell? ⟨g, 1, none⟩ = some (.int .u64 (hi y.p : Nat)) ∧ W.cell? ⟨g, 2, none⟩ = some (.int .u64 (lo y.p : Nat)) ∧ W.cell? ⟨g, 3, none⟩ = some (.int .i64 y.n) ∧
    W.cell? ⟨g, 4, none⟩ = some (.int .i64 y.st) ∧ W.cell? ⟨g, 5, none⟩ = some (.string y.cl) ∧ W.cell? ⟨g, 6, none⟩ = some (.int .u32 (y.ia : Int)) ∧ W.cell? ⟨g, 7, none⟩ = some (.int .i64 y.un) ∧
    W.cell? ⟨b, 0, none⟩ = some (.int .i64 l.kind) ∧ W.cell? ⟨b, 1, none⟩ = some (.int .u64 (hi l.p : Nat)) ∧ W.cell? ⟨b, 2, none⟩ = some (.int .u64 (lo l.p : Nat)) ∧ W.cell? ⟨b, 3, none⟩ = some (.int .i64 l.n) ∧
    W.cell? ⟨b, 4, none⟩ = some (.int .i64 l.st) ∧ W.cell? ⟨b, 5, none⟩ = some (.string l.cl) ∧ W.cell? ⟨b, 6, none⟩ = some (.int .u32 (l.ia : Int)) ∧ W.cell? ⟨b, 7, none⟩ = some (.int .i64 l.un) := by
  obtain ⟨a0, a1, a2, a3, a4, a5, a6, a7, _⟩ := node_cells h.2.1
  exact ⟨h, a0, a1, a2, a3, a4, a5, a6, a7, h.2.2.cells⟩
set_option maxRecDepth 100000 in
set_option maxHeartbeats 2000000 in
theorem taken_any (h : IsTab w t O L) {l : Ls} (hl : l.ok) : Calls Try.prog 55 #[Pt t, Lv l] w (Gives (.bool (takenB L l)) w) := by
  have hgood := h.tabL.good
  obtain ⟨km, om, v, E, h, hs, hp⟩ := h
  have B0 : Hid (Below w.heap.size w (w.alloc (.cells (leaseC l) 36))) := hide (below_alloc _ _)
  have X0 : Hid (BoxL (w.alloc (.cells (leaseC l) 36)) w.heap.size l) := hide (heap_alloc_new w _)
  have H := hide h
  have HP := hide hp
  have HL := hide hl
  cases e : ofL L l.kind l.cl l.ia with
  | some y =>
    rw [taken_some hgood e]
    have HE := hide e
    have R : Hid (∀ W, Below w.heap.size w W → Gives (.bool (!keyB y l)) w (.returned (.bool (!keyB y l))) W) := hide (fun W h => ⟨rfl, h⟩)
    have NQ := fun W => neq_key y l W
    generalize (!keyB y l) = res at *
    clear h hs hp hl hgood e
    go_enter Try.func55, Try.ntmps55
    go_wp2_with fail
    generalize hV : w.alloc (.cells (leaseC l) 36) = V at *
    clear hV
    have H0 := hide (H.out.below B0.out)
    have K0 : KV V t km om w.heap.size l V := ⟨Below.refl _ _, rfl, H0.out.ends.tabs.1, H0.out.ends.tabs.2.1, X0.out⟩
    obtain ⟨_, c0, c1, b0, b1, b2, b3, b4, b5, b6, b7⟩ := K0.all
    have PK : Hid (∀ w1, Below V.heap.size V w1 → ∃ g i, (Instr.lookup 69 (.map (some om)) (OOf l) true).run Try.prog w1 = .ok (.tuple #[Pt g, .bool true]) w1 ∧ NodeAt w1 g y i) := hide (fun w1 hb => by
      rcases look_own (H0.out.below hb) HP.out HL.out.kind HL.out.cl HL.out.ia with ⟨g, z, i, hf, hg, hnd, hrun, _⟩ | ⟨hf, _⟩
      · rw [HE.out] at hf; cases hf
        exact ⟨g, i, hrun, hnd⟩
      · rw [HE.out] at hf; cases hf)
    go_region_held3 (fun W => KV V t km om w.heap.size l W ∧ W.cell? ⟨t, 0, none⟩ = some (.map (some km)) ∧ W.cell? ⟨t, 1, none⟩ = some (.map (some om)) ∧ W.cell? ⟨w.heap.size, 0, none⟩ = some (.int .i64 l.kind) ∧ W.cell? ⟨w.heap.size, 1, none⟩ = some (.int .u64 (hi l.p : Nat)) ∧ W.cell? ⟨w.heap.size, 2, none⟩ = some (.int .u64 (lo l.p : Nat)) ∧ W.cell? ⟨w.heap.size, 3, none⟩ = some (.int .i64 l.n) ∧
        W.cell? ⟨w.heap.size, 4, none⟩ = some (.int .i64 l.st) ∧ W.cell? ⟨w.heap.size, 5, none⟩ = some (.string l.cl) ∧ W.cell? ⟨w.heap.size, 6, none⟩ = some (.int .u32 (l.ia : Int)) ∧ W.cell? ⟨w.heap.size, 7, none⟩ = some (.int .i64 l.un))
      (first
        | exact (K0.step (below_drew _)).all
        | exact K1.all)
      (first
        | (go_at_call 52; refine (ownerOf_any l _).mono ?_; rintro e w1 ⟨rfl, hb1⟩; have K1 := (K0.step (below_drew _)).step hb1; obtain ⟨g, i, hrun, HN⟩ := PK.out _ K1.1; have HN1 := hide HN; clear HN hb1))
    have HB1 := hide (chain B0.out K1.1)
    have HX1 := hide K1.2.2.2.2
    clear hrun c0 c1 b0 b1 b2 b3 b4 b5 b6 b7 PK K0 K1
    have N0 : KN w1 g i w.heap.size y l w1 := ⟨Below.refl _ _, HN1.out, HX1.out⟩
    obtain ⟨_, a0, a1, a2, a3, a4, a5, a6, a7, b0, b1, b2, b3, b4, b5, b6, b7⟩ := N0.all
    go_wp2_with fail
    go_region_held3 (fun W => KN w1 g i w.heap.size y l W ∧ W.cell? ⟨g, 0, none⟩ = some (.int .i64 y.kind) ∧ W.cell? ⟨g, 1, none⟩ = some (.int .u64 (hi y.p : Nat)) ∧ W.cell? ⟨g, 2, none⟩ = some (.int .u64 (lo y.p : Nat)) ∧ W.cell? ⟨g, 3, none⟩ = some (.int .i64 y.n) ∧
    W.cell? ⟨g, 4, none⟩ = some (.int .i64 y.st) ∧ W.cell? ⟨g, 5, none⟩ = some (.string y.cl) ∧ W.cell? ⟨g, 6, none⟩ = some (.int .u32 (y.ia : Int)) ∧ W.cell? ⟨g, 7, none⟩ = some (.int .i64 y.un) ∧
    W.cell? ⟨w.heap.size, 0, none⟩ = some (.int .i64 l.kind) ∧ W.cell? ⟨w.heap.size, 1, none⟩ = some (.int .u64 (hi l.p : Nat)) ∧ W.cell? ⟨w.heap.size, 2, none⟩ = some (.int .u64 (lo l.p : Nat)) ∧ W.cell? ⟨w.heap.size, 3, none⟩ = some (.int .i64 l.n) ∧
    W.cell? ⟨w.heap.size, 4, none⟩ = some (.int .i64 l.st) ∧ W.cell? ⟨w.heap.size, 5, none⟩ = some (.string l.cl) ∧ W.cell? ⟨w.heap.size, 6, none⟩ = some (.int .u32 (l.ia : Int)) ∧ W.cell? ⟨w.heap.size, 7, none⟩ = some (.int .i64 l.un))
      (first
        | exact (N0.step (below_drew _)).all
        | exact N1.all
        | exact N2.all)
      (first
        | (go_at_call 51; refine (keyOf_any y _).mono ?_; rintro e w2 ⟨rfl, hb2⟩; have N1 := (N0.step (below_drew _)).step hb2; clear hb2)
        | (go_at_call 51; refine (keyOf_any l _).mono ?_; rintro e w3 ⟨rfl, hb3⟩; have N2 := N1.step hb3; clear hb3))
    go_wp2
    go_ret
    exact R.out _ (chain HB1.out N2.1)
  | none =>
    rw [taken_none e]
    have HE := hide e
    clear h hs hp hl hgood e
    go_enter Try.func55, Try.ntmps55
    go_wp2_with fail
    generalize hV : w.alloc (.cells (leaseC l) 36) = V at *
    clear hV
    have H0 := hide (H.out.below B0.out)
    have K0 : KV V t km om w.heap.size l V := ⟨Below.refl _ _, rfl, H0.out.ends.tabs.1, H0.out.ends.tabs.2.1, X0.out⟩
    obtain ⟨_, c0, c1, b0, b1, b2, b3, b4, b5, b6, b7⟩ := K0.all
    have PK : Hid (∀ w1, Below V.heap.size V w1 → (Instr.lookup 69 (.map (some om)) (OOf l) true).run Try.prog w1 = .ok (.tuple #[.pointer none, .bool false]) w1) := hide (fun w1 hb => by
      rcases look_own (H0.out.below hb) HP.out HL.out.kind HL.out.cl HL.out.ia with ⟨g, z, i, hf, hg, hnd, hrun, _⟩ | ⟨hf, hrun, _⟩
      · rw [HE.out] at hf; cases hf
      · exact hrun)
    go_region_held3 (fun W => KV V t km om w.heap.size l W ∧ W.cell? ⟨t, 0, none⟩ = some (.map (some km)) ∧ W.cell? ⟨t, 1, none⟩ = some (.map (some om)) ∧ W.cell? ⟨w.heap.size, 0, none⟩ = some (.int .i64 l.kind) ∧ W.cell? ⟨w.heap.size, 1, none⟩ = some (.int .u64 (hi l.p : Nat)) ∧ W.cell? ⟨w.heap.size, 2, none⟩ = some (.int .u64 (lo l.p : Nat)) ∧ W.cell? ⟨w.heap.size, 3, none⟩ = some (.int .i64 l.n) ∧
        W.cell? ⟨w.heap.size, 4, none⟩ = some (.int .i64 l.st) ∧ W.cell? ⟨w.heap.size, 5, none⟩ = some (.string l.cl) ∧ W.cell? ⟨w.heap.size, 6, none⟩ = some (.int .u32 (l.ia : Int)) ∧ W.cell? ⟨w.heap.size, 7, none⟩ = some (.int .i64 l.un))
      (first
        | exact (K0.step (below_drew _)).all
        | exact K1.all)
      (first
        | (go_at_call 52; refine (ownerOf_any l _).mono ?_; rintro e w1 ⟨rfl, hb1⟩; have K1 := (K0.step (below_drew _)).step hb1; have hrun := PK.out _ K1.1; clear hb1))
    have HB1 := hide (chain B0.out K1.1)
    clear hrun c0 c1 b0 b1 b2 b3 b4 b5 b6 b7 PK K0 K1
    go_wp2_with fail
    go_quiet (fail)
    go_wp2
    go_ret
    exact ⟨rfl, chain HB1.out (below_drewN _ _)⟩
end Go.Proofs.Ytpldkgollhbolaa
