/-
  The contract of a table's check: whether a change can be made. Condition: the change's lease is one of its type.
-/
import Derived.Test.YtpldkgollhbolaaGreatT7
namespace Go.Proofs.YtpldkgollhbolaaGreat
open Go.RowKit Go.Joins Go.Maps

variable {w w' V W W' : World} {t km om : Nat} {O : Nat → Prop} {v : Value} {E : List En} {L : List Ls}
def KC (V : World) (t km om b : Nat) (c : Ch) (W : World) : Prop := Below V.heap.size V W ∧ W.cell? ⟨t, 0, none⟩ = some (.map (some km)) ∧ W.cell? ⟨t, 1, none⟩ = some (.map (some om)) ∧ W.heap[b]? = some (.cells (changeC c) 41 (0, 0))
theorem KC.step {b : Nat} {c : Ch} (h : KC V t km om b c W) (hb : Below W.heap.size W W') : KC V t km om b c W' :=
  ⟨chain h.1 hb, keep_cell hb h.2.1, keep_cell hb h.2.2.1, (Fr.ofBelow hb).keep h.2.2.2 (fun e => e)⟩
theorem KC.all {b : Nat} {c : Ch} (h : KC V t km om b c W) : KC V t km om b c W ∧ W.cell? ⟨t, 0, none⟩ = some (.map (some km)) ∧ W.cell? ⟨t, 1, none⟩ = some (.map (some om)) ∧ W.cell? ⟨b, 0, none⟩ = some (.bool c.gone) ∧ W.cell? ⟨b, 1, none⟩ = some (.int .i64 c.l.kind) ∧ W.cell? ⟨b, 2, none⟩ = some (.int .u64 (hi c.l.p : Nat)) ∧ W.cell? ⟨b, 3, none⟩ = some (.int .u64 (lo c.l.p : Nat)) ∧ W.cell? ⟨b, 4, none⟩ = some (.int .i64 c.l.n) ∧
    W.cell? ⟨b, 5, none⟩ = some (.int .i64 c.l.st) ∧ W.cell? ⟨b, 6, none⟩ = some (.string c.l.cl) ∧ W.cell? ⟨b, 7, none⟩ = some (.int .u32 (c.l.ia : Int)) ∧ W.cell? ⟨b, 8, none⟩ = some (.int .i64 c.l.un) := by
  obtain ⟨a0, a1, a2, a3, a4, a5, a6, a7, a8, _⟩ := cells9 h.2.2.2
  exact ⟨h, h.2.1, h.2.2.1, a0, a1, a2, a3, a4, a5, a6, a7, a8⟩
theorem chk_bad {c : Ch} (h : changeS c = false) : chkL L c = 80 := by unfold chkL; rw [if_pos h]
theorem chk_gone {c : Ch} (h : changeS c = true) (hg : c.gone = true) : chkL L c = if thereL L c.l = true then 0 else 62 := by unfold chkL; rw [if_neg (by rw [h]; simp), if_pos hg]
theorem chk_put {c : Ch} (h : changeS c = true) (hg : c.gone = false) : chkL L c = if takenB L c.l = true then 90 else if thereL L c.l = true then 0 else if clashL L c.l = true then 91 else if 1024 ≤ L.length then 63 else 0 := by
  unfold chkL takenB; rw [if_neg (by rw [h]; simp), if_neg (by rw [hg]; simp)]
theorem look_there (h : TabE w t km om O v E) (hp : L.Perm (E.map (·.2))) {l : Ls} (hl : l.ok) :
    (thereL L l = true → ∃ g, (Instr.lookup 66 (.map (some km)) (KOf l) true).run Tryz.prog w = .ok (.tuple #[Pt g, .bool true]) w) ∧
    (thereL L l = false → (Instr.lookup 66 (.map (some km)) (KOf l) true).run Tryz.prog w = .ok (.tuple #[.pointer none, .bool false]) w) := by
  refine ⟨fun ht => ?_, fun ht => ?_⟩
  · obtain ⟨y, _, hy, hk⟩ := find_there ht
    obtain ⟨g, hg⟩ := mem_node hp hy
    exact ⟨g, look_yes h hg hl hk⟩
  · exact look_no h hl (fun e he => any_no ht (hp.mem_iff.2 (List.mem_map.2 ⟨e, he, rfl⟩)))
set_option maxRecDepth 100000 in
set_option maxHeartbeats 1000000 in
theorem check_bad {c : Ch} (hc : Fits c.l.p) (h : changeS c = false) : Calls Tryz.prog 22 #[Pt t, Cv c] w (Gives (.int .i64 80) w) := by
  have C := hide (fun W => change_any c hc W)
  rw [h] at C
  clear hc h
  go_enter Tryz.func22, Tryz.ntmps22
  go_wp2_with fail
  refine (C.out _).mono ?_
  rintro e w2 ⟨rfl, hb2⟩
  go_wp2
  go_ret
  exact ⟨rfl, chain (below_alloc _ _) hb2⟩
set_option maxRecDepth 100000 in
set_option maxHeartbeats 2000000 in
theorem check_gone_there (h : IsTab w t O L) {l : Ls} (hl : l.ok) (hc : changeS ⟨true, l⟩ = true) (ht : thereL L l = true) :
    Calls Tryz.prog 22 #[Pt t, Cv ⟨true, l⟩] w (Gives (.int .i64 0) w) := by
  have C := hide (fun W => change_any ⟨true, l⟩ hl.p W)
  rw [hc] at C
  have T := hide (fun W hW => taken_any (w := W) (t := t) (O := O) (L := L) (l := l) hW hl)
  have CL := hide (fun W hW => clashes_any (w := W) (t := t) (O := O) (L := L) (l := l) hW hl)
  have SZ := hide (fun W hW => size_any (w := W) (t := t) (O := O) (L := L) hW)
  have HI := hide h
  obtain ⟨km, om, v, E, h, hs, hp⟩ := h
  have H := hide h
  have HP := hide hp
  have HL := hide hl
  have HT := hide ht
  have B0 : Hid (Below w.heap.size w (w.alloc (.cells (changeC ⟨true, l⟩) 41))) := hide (below_alloc _ _)
  have X0 : Hid ((w.alloc (.cells (changeC ⟨true, l⟩) 41)).heap[w.heap.size]? = some (.cells (changeC ⟨true, l⟩) 41 (0, 0))) := hide (heap_alloc_new w _)
  clear h hs hp hl hc ht
  go_enter Tryz.func22, Tryz.ntmps22
  go_wp2_with fail
  generalize hV : w.alloc (.cells (changeC ⟨true, l⟩) 41) = V at *
  clear hV
  refine (C.out _).mono ?_
  rintro e w1 ⟨rfl, hb1⟩
  have B1 := hide (chain B0.out hb1)
  have H1 := hide (H.out.below B1.out)
  have K0 : KC w1 t km om w.heap.size ⟨true, l⟩ w1 := ⟨Below.refl _ _, H1.out.ends.tabs.1, H1.out.ends.tabs.2.1, (Fr.ofBelow hb1).keep X0.out (fun e => e)⟩
  clear hb1 C
  obtain ⟨_, c0, c1, b0, b1, b2, b3, b4, b5, b6, b7, b8⟩ := K0.all
  have PK : Hid (∀ w2, Below w1.heap.size w1 w2 → ∃ g, (Instr.lookup 66 (.map (some km)) (KOf l) true).run Tryz.prog w2 = .ok (.tuple #[Pt g, .bool true]) w2) := hide (fun w2 hb => (look_there (H1.out.below hb) HP.out HL.out).1 HT.out)
  go_wp2_with fail
  go_region_held3 (fun W => KC w1 t km om w.heap.size ⟨true, l⟩ W ∧ W.cell? ⟨t, 0, none⟩ = some (.map (some km)) ∧ W.cell? ⟨t, 1, none⟩ = some (.map (some om)) ∧ W.cell? ⟨w.heap.size, 0, none⟩ = some (.bool true) ∧ W.cell? ⟨w.heap.size, 1, none⟩ = some (.int .i64 l.kind) ∧ W.cell? ⟨w.heap.size, 2, none⟩ = some (.int .u64 (hi l.p : Nat)) ∧ W.cell? ⟨w.heap.size, 3, none⟩ = some (.int .u64 (lo l.p : Nat)) ∧ W.cell? ⟨w.heap.size, 4, none⟩ = some (.int .i64 l.n) ∧
      W.cell? ⟨w.heap.size, 5, none⟩ = some (.int .i64 l.st) ∧ W.cell? ⟨w.heap.size, 6, none⟩ = some (.string l.cl) ∧ W.cell? ⟨w.heap.size, 7, none⟩ = some (.int .u32 (l.ia : Int)) ∧ W.cell? ⟨w.heap.size, 8, none⟩ = some (.int .i64 l.un))
    (first
      | exact (K0.step (below_drew _)).all
      | exact K1.all)
    (first
      | (go_at_call 46; refine (keyOf_any l _).mono ?_; rintro e w2 ⟨rfl, hb2⟩; have K1 := (K0.step (below_drew _)).step hb2; obtain ⟨g, hrun⟩ := PK.out _ K1.1; clear hb2))
  have HK1 := hide K1
  clear hrun c0 c1 b0 b1 b2 b3 b4 b5 b6 b7 b8 PK K0
  obtain ⟨_, c0, c1, b0, b1, b2, b3, b4, b5, b6, b7, b8⟩ := K1.all
  clear K1
  have B2 := hide (chain B1.out HK1.out.1)
  go_wp2
  go_ret
  exact ⟨rfl, B2.out⟩
set_option maxRecDepth 100000 in
set_option maxHeartbeats 2000000 in
theorem check_gone_not (h : IsTab w t O L) {l : Ls} (hl : l.ok) (hc : changeS ⟨true, l⟩ = true) (ht : thereL L l = false) :
    Calls Tryz.prog 22 #[Pt t, Cv ⟨true, l⟩] w (Gives (.int .i64 62) w) := by
  have C := hide (fun W => change_any ⟨true, l⟩ hl.p W)
  rw [hc] at C
  have T := hide (fun W hW => taken_any (w := W) (t := t) (O := O) (L := L) (l := l) hW hl)
  have CL := hide (fun W hW => clashes_any (w := W) (t := t) (O := O) (L := L) (l := l) hW hl)
  have SZ := hide (fun W hW => size_any (w := W) (t := t) (O := O) (L := L) hW)
  have HI := hide h
  obtain ⟨km, om, v, E, h, hs, hp⟩ := h
  have H := hide h
  have HP := hide hp
  have HL := hide hl
  have HT := hide ht
  have B0 : Hid (Below w.heap.size w (w.alloc (.cells (changeC ⟨true, l⟩) 41))) := hide (below_alloc _ _)
  have X0 : Hid ((w.alloc (.cells (changeC ⟨true, l⟩) 41)).heap[w.heap.size]? = some (.cells (changeC ⟨true, l⟩) 41 (0, 0))) := hide (heap_alloc_new w _)
  clear h hs hp hl hc ht
  go_enter Tryz.func22, Tryz.ntmps22
  go_wp2_with fail
  generalize hV : w.alloc (.cells (changeC ⟨true, l⟩) 41) = V at *
  clear hV
  refine (C.out _).mono ?_
  rintro e w1 ⟨rfl, hb1⟩
  have B1 := hide (chain B0.out hb1)
  have H1 := hide (H.out.below B1.out)
  have K0 : KC w1 t km om w.heap.size ⟨true, l⟩ w1 := ⟨Below.refl _ _, H1.out.ends.tabs.1, H1.out.ends.tabs.2.1, (Fr.ofBelow hb1).keep X0.out (fun e => e)⟩
  clear hb1 C
  obtain ⟨_, c0, c1, b0, b1, b2, b3, b4, b5, b6, b7, b8⟩ := K0.all
  have PK : Hid (∀ w2, Below w1.heap.size w1 w2 → (Instr.lookup 66 (.map (some km)) (KOf l) true).run Tryz.prog w2 = .ok (.tuple #[.pointer none, .bool false]) w2) := hide (fun w2 hb => (look_there (H1.out.below hb) HP.out HL.out).2 HT.out)
  go_wp2_with fail
  go_region_held3 (fun W => KC w1 t km om w.heap.size ⟨true, l⟩ W ∧ W.cell? ⟨t, 0, none⟩ = some (.map (some km)) ∧ W.cell? ⟨t, 1, none⟩ = some (.map (some om)) ∧ W.cell? ⟨w.heap.size, 0, none⟩ = some (.bool true) ∧ W.cell? ⟨w.heap.size, 1, none⟩ = some (.int .i64 l.kind) ∧ W.cell? ⟨w.heap.size, 2, none⟩ = some (.int .u64 (hi l.p : Nat)) ∧ W.cell? ⟨w.heap.size, 3, none⟩ = some (.int .u64 (lo l.p : Nat)) ∧ W.cell? ⟨w.heap.size, 4, none⟩ = some (.int .i64 l.n) ∧
      W.cell? ⟨w.heap.size, 5, none⟩ = some (.int .i64 l.st) ∧ W.cell? ⟨w.heap.size, 6, none⟩ = some (.string l.cl) ∧ W.cell? ⟨w.heap.size, 7, none⟩ = some (.int .u32 (l.ia : Int)) ∧ W.cell? ⟨w.heap.size, 8, none⟩ = some (.int .i64 l.un))
    (first
      | exact (K0.step (below_drew _)).all
      | exact K1.all)
    (first
      | (go_at_call 46; refine (keyOf_any l _).mono ?_; rintro e w2 ⟨rfl, hb2⟩; have K1 := (K0.step (below_drew _)).step hb2; have hrun := PK.out _ K1.1; clear hb2))
  have HK1 := hide K1
  clear hrun c0 c1 b0 b1 b2 b3 b4 b5 b6 b7 b8 PK K0
  obtain ⟨_, c0, c1, b0, b1, b2, b3, b4, b5, b6, b7, b8⟩ := K1.all
  clear K1
  have B2 := hide (chain B1.out HK1.out.1)
  go_wp2
  go_ret
  exact ⟨rfl, B2.out⟩
set_option maxRecDepth 100000 in
set_option maxHeartbeats 2000000 in
theorem check_taken_there (h : IsTab w t O L) {l : Ls} (hl : l.ok) (hc : changeS ⟨false, l⟩ = true) (ht : thereL L l = true) (htk : takenB L l = true) :
    Calls Tryz.prog 22 #[Pt t, Cv ⟨false, l⟩] w (Gives (.int .i64 90) w) := by
  have C := hide (fun W => change_any ⟨false, l⟩ hl.p W)
  rw [hc] at C
  have T := hide (fun W hW => taken_any (w := W) (t := t) (O := O) (L := L) (l := l) hW hl)
  rw [htk] at T
  have CL := hide (fun W hW => clashes_any (w := W) (t := t) (O := O) (L := L) (l := l) hW hl)
  have SZ := hide (fun W hW => size_any (w := W) (t := t) (O := O) (L := L) hW)
  have HI := hide h
  obtain ⟨km, om, v, E, h, hs, hp⟩ := h
  have H := hide h
  have HP := hide hp
  have HL := hide hl
  have HT := hide ht
  have B0 : Hid (Below w.heap.size w (w.alloc (.cells (changeC ⟨false, l⟩) 41))) := hide (below_alloc _ _)
  have X0 : Hid ((w.alloc (.cells (changeC ⟨false, l⟩) 41)).heap[w.heap.size]? = some (.cells (changeC ⟨false, l⟩) 41 (0, 0))) := hide (heap_alloc_new w _)
  clear h hs hp hl hc ht htk
  go_enter Tryz.func22, Tryz.ntmps22
  go_wp2_with fail
  generalize hV : w.alloc (.cells (changeC ⟨false, l⟩) 41) = V at *
  clear hV
  refine (C.out _).mono ?_
  rintro e w1 ⟨rfl, hb1⟩
  have B1 := hide (chain B0.out hb1)
  have H1 := hide (H.out.below B1.out)
  have K0 : KC w1 t km om w.heap.size ⟨false, l⟩ w1 := ⟨Below.refl _ _, H1.out.ends.tabs.1, H1.out.ends.tabs.2.1, (Fr.ofBelow hb1).keep X0.out (fun e => e)⟩
  clear hb1 C
  obtain ⟨_, c0, c1, b0, b1, b2, b3, b4, b5, b6, b7, b8⟩ := K0.all
  have PK : Hid (∀ w2, Below w1.heap.size w1 w2 → ∃ g, (Instr.lookup 66 (.map (some km)) (KOf l) true).run Tryz.prog w2 = .ok (.tuple #[Pt g, .bool true]) w2) := hide (fun w2 hb => (look_there (H1.out.below hb) HP.out HL.out).1 HT.out)
  go_wp2_with fail
  go_region_held3 (fun W => KC w1 t km om w.heap.size ⟨false, l⟩ W ∧ W.cell? ⟨t, 0, none⟩ = some (.map (some km)) ∧ W.cell? ⟨t, 1, none⟩ = some (.map (some om)) ∧ W.cell? ⟨w.heap.size, 0, none⟩ = some (.bool false) ∧ W.cell? ⟨w.heap.size, 1, none⟩ = some (.int .i64 l.kind) ∧ W.cell? ⟨w.heap.size, 2, none⟩ = some (.int .u64 (hi l.p : Nat)) ∧ W.cell? ⟨w.heap.size, 3, none⟩ = some (.int .u64 (lo l.p : Nat)) ∧ W.cell? ⟨w.heap.size, 4, none⟩ = some (.int .i64 l.n) ∧
      W.cell? ⟨w.heap.size, 5, none⟩ = some (.int .i64 l.st) ∧ W.cell? ⟨w.heap.size, 6, none⟩ = some (.string l.cl) ∧ W.cell? ⟨w.heap.size, 7, none⟩ = some (.int .u32 (l.ia : Int)) ∧ W.cell? ⟨w.heap.size, 8, none⟩ = some (.int .i64 l.un))
    (first
      | exact (K0.step (below_drew _)).all
      | exact K1.all)
    (first
      | (go_at_call 46; refine (keyOf_any l _).mono ?_; rintro e w2 ⟨rfl, hb2⟩; have K1 := (K0.step (below_drew _)).step hb2; obtain ⟨g, hrun⟩ := PK.out _ K1.1; clear hb2))
  have HK1 := hide K1
  clear hrun c0 c1 b0 b1 b2 b3 b4 b5 b6 b7 b8 PK K0
  obtain ⟨_, c0, c1, b0, b1, b2, b3, b4, b5, b6, b7, b8⟩ := K1.all
  clear K1
  have B2 := hide (chain B1.out HK1.out.1)
  go_wp2_with fail
  refine (T.out _ (HI.out.below B2.out)).mono ?_
  rintro e w3 ⟨rfl, hb3⟩
  have HK2 := hide (HK1.out.step hb3)
  have B3 := hide (chain B2.out hb3)
  clear hb3 c0 c1 b0 b1 b2 b3 b4 b5 b6 b7 b8
  obtain ⟨_, c0, c1, b0, b1, b2, b3, b4, b5, b6, b7, b8⟩ := HK2.out.all
  go_wp2
  go_ret
  exact ⟨rfl, B3.out⟩
set_option maxRecDepth 100000 in
set_option maxHeartbeats 2000000 in
theorem check_taken_not (h : IsTab w t O L) {l : Ls} (hl : l.ok) (hc : changeS ⟨false, l⟩ = true) (ht : thereL L l = false) (htk : takenB L l = true) :
    Calls Tryz.prog 22 #[Pt t, Cv ⟨false, l⟩] w (Gives (.int .i64 90) w) := by
  have C := hide (fun W => change_any ⟨false, l⟩ hl.p W)
  rw [hc] at C
  have T := hide (fun W hW => taken_any (w := W) (t := t) (O := O) (L := L) (l := l) hW hl)
  rw [htk] at T
  have CL := hide (fun W hW => clashes_any (w := W) (t := t) (O := O) (L := L) (l := l) hW hl)
  have SZ := hide (fun W hW => size_any (w := W) (t := t) (O := O) (L := L) hW)
  have HI := hide h
  obtain ⟨km, om, v, E, h, hs, hp⟩ := h
  have H := hide h
  have HP := hide hp
  have HL := hide hl
  have HT := hide ht
  have B0 : Hid (Below w.heap.size w (w.alloc (.cells (changeC ⟨false, l⟩) 41))) := hide (below_alloc _ _)
  have X0 : Hid ((w.alloc (.cells (changeC ⟨false, l⟩) 41)).heap[w.heap.size]? = some (.cells (changeC ⟨false, l⟩) 41 (0, 0))) := hide (heap_alloc_new w _)
  clear h hs hp hl hc ht htk
  go_enter Tryz.func22, Tryz.ntmps22
  go_wp2_with fail
  generalize hV : w.alloc (.cells (changeC ⟨false, l⟩) 41) = V at *
  clear hV
  refine (C.out _).mono ?_
  rintro e w1 ⟨rfl, hb1⟩
  have B1 := hide (chain B0.out hb1)
  have H1 := hide (H.out.below B1.out)
  have K0 : KC w1 t km om w.heap.size ⟨false, l⟩ w1 := ⟨Below.refl _ _, H1.out.ends.tabs.1, H1.out.ends.tabs.2.1, (Fr.ofBelow hb1).keep X0.out (fun e => e)⟩
  clear hb1 C
  obtain ⟨_, c0, c1, b0, b1, b2, b3, b4, b5, b6, b7, b8⟩ := K0.all
  have PK : Hid (∀ w2, Below w1.heap.size w1 w2 → (Instr.lookup 66 (.map (some km)) (KOf l) true).run Tryz.prog w2 = .ok (.tuple #[.pointer none, .bool false]) w2) := hide (fun w2 hb => (look_there (H1.out.below hb) HP.out HL.out).2 HT.out)
  go_wp2_with fail
  go_region_held3 (fun W => KC w1 t km om w.heap.size ⟨false, l⟩ W ∧ W.cell? ⟨t, 0, none⟩ = some (.map (some km)) ∧ W.cell? ⟨t, 1, none⟩ = some (.map (some om)) ∧ W.cell? ⟨w.heap.size, 0, none⟩ = some (.bool false) ∧ W.cell? ⟨w.heap.size, 1, none⟩ = some (.int .i64 l.kind) ∧ W.cell? ⟨w.heap.size, 2, none⟩ = some (.int .u64 (hi l.p : Nat)) ∧ W.cell? ⟨w.heap.size, 3, none⟩ = some (.int .u64 (lo l.p : Nat)) ∧ W.cell? ⟨w.heap.size, 4, none⟩ = some (.int .i64 l.n) ∧
      W.cell? ⟨w.heap.size, 5, none⟩ = some (.int .i64 l.st) ∧ W.cell? ⟨w.heap.size, 6, none⟩ = some (.string l.cl) ∧ W.cell? ⟨w.heap.size, 7, none⟩ = some (.int .u32 (l.ia : Int)) ∧ W.cell? ⟨w.heap.size, 8, none⟩ = some (.int .i64 l.un))
    (first
      | exact (K0.step (below_drew _)).all
      | exact K1.all)
    (first
      | (go_at_call 46; refine (keyOf_any l _).mono ?_; rintro e w2 ⟨rfl, hb2⟩; have K1 := (K0.step (below_drew _)).step hb2; have hrun := PK.out _ K1.1; clear hb2))
  have HK1 := hide K1
  clear hrun c0 c1 b0 b1 b2 b3 b4 b5 b6 b7 b8 PK K0
  obtain ⟨_, c0, c1, b0, b1, b2, b3, b4, b5, b6, b7, b8⟩ := K1.all
  clear K1
  have B2 := hide (chain B1.out HK1.out.1)
  go_wp2_with fail
  refine (T.out _ (HI.out.below B2.out)).mono ?_
  rintro e w3 ⟨rfl, hb3⟩
  have HK2 := hide (HK1.out.step hb3)
  have B3 := hide (chain B2.out hb3)
  clear hb3 c0 c1 b0 b1 b2 b3 b4 b5 b6 b7 b8
  obtain ⟨_, c0, c1, b0, b1, b2, b3, b4, b5, b6, b7, b8⟩ := HK2.out.all
  go_wp2
  go_ret
  exact ⟨rfl, B3.out⟩
set_option maxRecDepth 100000 in
set_option maxHeartbeats 2000000 in
theorem check_there (h : IsTab w t O L) {l : Ls} (hl : l.ok) (hc : changeS ⟨false, l⟩ = true) (ht : thereL L l = true) (htk : takenB L l = false) :
    Calls Tryz.prog 22 #[Pt t, Cv ⟨false, l⟩] w (Gives (.int .i64 0) w) := by
  have C := hide (fun W => change_any ⟨false, l⟩ hl.p W)
  rw [hc] at C
  have T := hide (fun W hW => taken_any (w := W) (t := t) (O := O) (L := L) (l := l) hW hl)
  rw [htk] at T
  have CL := hide (fun W hW => clashes_any (w := W) (t := t) (O := O) (L := L) (l := l) hW hl)
  have SZ := hide (fun W hW => size_any (w := W) (t := t) (O := O) (L := L) hW)
  have HI := hide h
  obtain ⟨km, om, v, E, h, hs, hp⟩ := h
  have H := hide h
  have HP := hide hp
  have HL := hide hl
  have HT := hide ht
  have B0 : Hid (Below w.heap.size w (w.alloc (.cells (changeC ⟨false, l⟩) 41))) := hide (below_alloc _ _)
  have X0 : Hid ((w.alloc (.cells (changeC ⟨false, l⟩) 41)).heap[w.heap.size]? = some (.cells (changeC ⟨false, l⟩) 41 (0, 0))) := hide (heap_alloc_new w _)
  clear h hs hp hl hc ht htk
  go_enter Tryz.func22, Tryz.ntmps22
  go_wp2_with fail
  generalize hV : w.alloc (.cells (changeC ⟨false, l⟩) 41) = V at *
  clear hV
  refine (C.out _).mono ?_
  rintro e w1 ⟨rfl, hb1⟩
  have B1 := hide (chain B0.out hb1)
  have H1 := hide (H.out.below B1.out)
  have K0 : KC w1 t km om w.heap.size ⟨false, l⟩ w1 := ⟨Below.refl _ _, H1.out.ends.tabs.1, H1.out.ends.tabs.2.1, (Fr.ofBelow hb1).keep X0.out (fun e => e)⟩
  clear hb1 C
  obtain ⟨_, c0, c1, b0, b1, b2, b3, b4, b5, b6, b7, b8⟩ := K0.all
  have PK : Hid (∀ w2, Below w1.heap.size w1 w2 → ∃ g, (Instr.lookup 66 (.map (some km)) (KOf l) true).run Tryz.prog w2 = .ok (.tuple #[Pt g, .bool true]) w2) := hide (fun w2 hb => (look_there (H1.out.below hb) HP.out HL.out).1 HT.out)
  go_wp2_with fail
  go_region_held3 (fun W => KC w1 t km om w.heap.size ⟨false, l⟩ W ∧ W.cell? ⟨t, 0, none⟩ = some (.map (some km)) ∧ W.cell? ⟨t, 1, none⟩ = some (.map (some om)) ∧ W.cell? ⟨w.heap.size, 0, none⟩ = some (.bool false) ∧ W.cell? ⟨w.heap.size, 1, none⟩ = some (.int .i64 l.kind) ∧ W.cell? ⟨w.heap.size, 2, none⟩ = some (.int .u64 (hi l.p : Nat)) ∧ W.cell? ⟨w.heap.size, 3, none⟩ = some (.int .u64 (lo l.p : Nat)) ∧ W.cell? ⟨w.heap.size, 4, none⟩ = some (.int .i64 l.n) ∧
      W.cell? ⟨w.heap.size, 5, none⟩ = some (.int .i64 l.st) ∧ W.cell? ⟨w.heap.size, 6, none⟩ = some (.string l.cl) ∧ W.cell? ⟨w.heap.size, 7, none⟩ = some (.int .u32 (l.ia : Int)) ∧ W.cell? ⟨w.heap.size, 8, none⟩ = some (.int .i64 l.un))
    (first
      | exact (K0.step (below_drew _)).all
      | exact K1.all)
    (first
      | (go_at_call 46; refine (keyOf_any l _).mono ?_; rintro e w2 ⟨rfl, hb2⟩; have K1 := (K0.step (below_drew _)).step hb2; obtain ⟨g, hrun⟩ := PK.out _ K1.1; clear hb2))
  have HK1 := hide K1
  clear hrun c0 c1 b0 b1 b2 b3 b4 b5 b6 b7 b8 PK K0
  obtain ⟨_, c0, c1, b0, b1, b2, b3, b4, b5, b6, b7, b8⟩ := K1.all
  clear K1
  have B2 := hide (chain B1.out HK1.out.1)
  go_wp2_with fail
  refine (T.out _ (HI.out.below B2.out)).mono ?_
  rintro e w3 ⟨rfl, hb3⟩
  have HK2 := hide (HK1.out.step hb3)
  have B3 := hide (chain B2.out hb3)
  clear hb3 c0 c1 b0 b1 b2 b3 b4 b5 b6 b7 b8
  obtain ⟨_, c0, c1, b0, b1, b2, b3, b4, b5, b6, b7, b8⟩ := HK2.out.all
  go_wp2
  go_ret
  exact ⟨rfl, B3.out⟩
set_option maxRecDepth 100000 in
set_option maxHeartbeats 2000000 in
theorem check_clash (h : IsTab w t O L) {l : Ls} (hl : l.ok) (hc : changeS ⟨false, l⟩ = true) (ht : thereL L l = false) (htk : takenB L l = false) (hcl : clashL L l = true) :
    Calls Tryz.prog 22 #[Pt t, Cv ⟨false, l⟩] w (Gives (.int .i64 91) w) := by
  have C := hide (fun W => change_any ⟨false, l⟩ hl.p W)
  rw [hc] at C
  have T := hide (fun W hW => taken_any (w := W) (t := t) (O := O) (L := L) (l := l) hW hl)
  rw [htk] at T
  have CL := hide (fun W hW => clashes_any (w := W) (t := t) (O := O) (L := L) (l := l) hW hl)
  rw [hcl] at CL
  have SZ := hide (fun W hW => size_any (w := W) (t := t) (O := O) (L := L) hW)
  have HI := hide h
  obtain ⟨km, om, v, E, h, hs, hp⟩ := h
  have H := hide h
  have HP := hide hp
  have HL := hide hl
  have HT := hide ht
  have B0 : Hid (Below w.heap.size w (w.alloc (.cells (changeC ⟨false, l⟩) 41))) := hide (below_alloc _ _)
  have X0 : Hid ((w.alloc (.cells (changeC ⟨false, l⟩) 41)).heap[w.heap.size]? = some (.cells (changeC ⟨false, l⟩) 41 (0, 0))) := hide (heap_alloc_new w _)
  clear h hs hp hl hc ht htk hcl
  go_enter Tryz.func22, Tryz.ntmps22
  go_wp2_with fail
  generalize hV : w.alloc (.cells (changeC ⟨false, l⟩) 41) = V at *
  clear hV
  refine (C.out _).mono ?_
  rintro e w1 ⟨rfl, hb1⟩
  have B1 := hide (chain B0.out hb1)
  have H1 := hide (H.out.below B1.out)
  have K0 : KC w1 t km om w.heap.size ⟨false, l⟩ w1 := ⟨Below.refl _ _, H1.out.ends.tabs.1, H1.out.ends.tabs.2.1, (Fr.ofBelow hb1).keep X0.out (fun e => e)⟩
  clear hb1 C
  obtain ⟨_, c0, c1, b0, b1, b2, b3, b4, b5, b6, b7, b8⟩ := K0.all
  have PK : Hid (∀ w2, Below w1.heap.size w1 w2 → (Instr.lookup 66 (.map (some km)) (KOf l) true).run Tryz.prog w2 = .ok (.tuple #[.pointer none, .bool false]) w2) := hide (fun w2 hb => (look_there (H1.out.below hb) HP.out HL.out).2 HT.out)
  go_wp2_with fail
  go_region_held3 (fun W => KC w1 t km om w.heap.size ⟨false, l⟩ W ∧ W.cell? ⟨t, 0, none⟩ = some (.map (some km)) ∧ W.cell? ⟨t, 1, none⟩ = some (.map (some om)) ∧ W.cell? ⟨w.heap.size, 0, none⟩ = some (.bool false) ∧ W.cell? ⟨w.heap.size, 1, none⟩ = some (.int .i64 l.kind) ∧ W.cell? ⟨w.heap.size, 2, none⟩ = some (.int .u64 (hi l.p : Nat)) ∧ W.cell? ⟨w.heap.size, 3, none⟩ = some (.int .u64 (lo l.p : Nat)) ∧ W.cell? ⟨w.heap.size, 4, none⟩ = some (.int .i64 l.n) ∧
      W.cell? ⟨w.heap.size, 5, none⟩ = some (.int .i64 l.st) ∧ W.cell? ⟨w.heap.size, 6, none⟩ = some (.string l.cl) ∧ W.cell? ⟨w.heap.size, 7, none⟩ = some (.int .u32 (l.ia : Int)) ∧ W.cell? ⟨w.heap.size, 8, none⟩ = some (.int .i64 l.un))
    (first
      | exact (K0.step (below_drew _)).all
      | exact K1.all)
    (first
      | (go_at_call 46; refine (keyOf_any l _).mono ?_; rintro e w2 ⟨rfl, hb2⟩; have K1 := (K0.step (below_drew _)).step hb2; have hrun := PK.out _ K1.1; clear hb2))
  have HK1 := hide K1
  clear hrun c0 c1 b0 b1 b2 b3 b4 b5 b6 b7 b8 PK K0
  obtain ⟨_, c0, c1, b0, b1, b2, b3, b4, b5, b6, b7, b8⟩ := K1.all
  clear K1
  have B2 := hide (chain B1.out HK1.out.1)
  go_wp2_with fail
  refine (T.out _ (HI.out.below B2.out)).mono ?_
  rintro e w3 ⟨rfl, hb3⟩
  have HK2 := hide (HK1.out.step hb3)
  have B3 := hide (chain B2.out hb3)
  clear hb3 c0 c1 b0 b1 b2 b3 b4 b5 b6 b7 b8
  obtain ⟨_, c0, c1, b0, b1, b2, b3, b4, b5, b6, b7, b8⟩ := HK2.out.all
  go_wp2_with fail
  refine (CL.out _ (HI.out.below B3.out)).mono ?_
  rintro e w4 ⟨rfl, hb4⟩
  have HK3 := hide (HK2.out.step hb4)
  have B4 := hide (chain B3.out hb4)
  clear hb4 c0 c1 b0 b1 b2 b3 b4 b5 b6 b7 b8
  obtain ⟨_, c0, c1, b0, b1, b2, b3, b4, b5, b6, b7, b8⟩ := HK3.out.all
  go_wp2
  go_ret
  exact ⟨rfl, B4.out⟩
set_option maxRecDepth 100000 in
set_option maxHeartbeats 2000000 in
theorem check_full (h : IsTab w t O L) {l : Ls} (hl : l.ok) (hc : changeS ⟨false, l⟩ = true) (ht : thereL L l = false) (htk : takenB L l = false) (hcl : clashL L l = false) (hf : (1024 : Int) ≤ (L.length : Int)) :
    Calls Tryz.prog 22 #[Pt t, Cv ⟨false, l⟩] w (Gives (.int .i64 63) w) := by
  have C := hide (fun W => change_any ⟨false, l⟩ hl.p W)
  rw [hc] at C
  have T := hide (fun W hW => taken_any (w := W) (t := t) (O := O) (L := L) (l := l) hW hl)
  rw [htk] at T
  have CL := hide (fun W hW => clashes_any (w := W) (t := t) (O := O) (L := L) (l := l) hW hl)
  rw [hcl] at CL
  have SZ := hide (fun W hW => size_any (w := W) (t := t) (O := O) (L := L) hW)
  have HI := hide h
  obtain ⟨km, om, v, E, h, hs, hp⟩ := h
  have H := hide h
  have HP := hide hp
  have HL := hide hl
  have HT := hide ht
  have B0 : Hid (Below w.heap.size w (w.alloc (.cells (changeC ⟨false, l⟩) 41))) := hide (below_alloc _ _)
  have X0 : Hid ((w.alloc (.cells (changeC ⟨false, l⟩) 41)).heap[w.heap.size]? = some (.cells (changeC ⟨false, l⟩) 41 (0, 0))) := hide (heap_alloc_new w _)
  clear h hs hp hl hc ht htk hcl
  go_enter Tryz.func22, Tryz.ntmps22
  go_wp2_with fail
  generalize hV : w.alloc (.cells (changeC ⟨false, l⟩) 41) = V at *
  clear hV
  refine (C.out _).mono ?_
  rintro e w1 ⟨rfl, hb1⟩
  have B1 := hide (chain B0.out hb1)
  have H1 := hide (H.out.below B1.out)
  have K0 : KC w1 t km om w.heap.size ⟨false, l⟩ w1 := ⟨Below.refl _ _, H1.out.ends.tabs.1, H1.out.ends.tabs.2.1, (Fr.ofBelow hb1).keep X0.out (fun e => e)⟩
  clear hb1 C
  obtain ⟨_, c0, c1, b0, b1, b2, b3, b4, b5, b6, b7, b8⟩ := K0.all
  have PK : Hid (∀ w2, Below w1.heap.size w1 w2 → (Instr.lookup 66 (.map (some km)) (KOf l) true).run Tryz.prog w2 = .ok (.tuple #[.pointer none, .bool false]) w2) := hide (fun w2 hb => (look_there (H1.out.below hb) HP.out HL.out).2 HT.out)
  go_wp2_with fail
  go_region_held3 (fun W => KC w1 t km om w.heap.size ⟨false, l⟩ W ∧ W.cell? ⟨t, 0, none⟩ = some (.map (some km)) ∧ W.cell? ⟨t, 1, none⟩ = some (.map (some om)) ∧ W.cell? ⟨w.heap.size, 0, none⟩ = some (.bool false) ∧ W.cell? ⟨w.heap.size, 1, none⟩ = some (.int .i64 l.kind) ∧ W.cell? ⟨w.heap.size, 2, none⟩ = some (.int .u64 (hi l.p : Nat)) ∧ W.cell? ⟨w.heap.size, 3, none⟩ = some (.int .u64 (lo l.p : Nat)) ∧ W.cell? ⟨w.heap.size, 4, none⟩ = some (.int .i64 l.n) ∧
      W.cell? ⟨w.heap.size, 5, none⟩ = some (.int .i64 l.st) ∧ W.cell? ⟨w.heap.size, 6, none⟩ = some (.string l.cl) ∧ W.cell? ⟨w.heap.size, 7, none⟩ = some (.int .u32 (l.ia : Int)) ∧ W.cell? ⟨w.heap.size, 8, none⟩ = some (.int .i64 l.un))
    (first
      | exact (K0.step (below_drew _)).all
      | exact K1.all)
    (first
      | (go_at_call 46; refine (keyOf_any l _).mono ?_; rintro e w2 ⟨rfl, hb2⟩; have K1 := (K0.step (below_drew _)).step hb2; have hrun := PK.out _ K1.1; clear hb2))
  have HK1 := hide K1
  clear hrun c0 c1 b0 b1 b2 b3 b4 b5 b6 b7 b8 PK K0
  obtain ⟨_, c0, c1, b0, b1, b2, b3, b4, b5, b6, b7, b8⟩ := K1.all
  clear K1
  have B2 := hide (chain B1.out HK1.out.1)
  go_wp2_with fail
  refine (T.out _ (HI.out.below B2.out)).mono ?_
  rintro e w3 ⟨rfl, hb3⟩
  have HK2 := hide (HK1.out.step hb3)
  have B3 := hide (chain B2.out hb3)
  clear hb3 c0 c1 b0 b1 b2 b3 b4 b5 b6 b7 b8
  obtain ⟨_, c0, c1, b0, b1, b2, b3, b4, b5, b6, b7, b8⟩ := HK2.out.all
  go_wp2_with fail
  refine (CL.out _ (HI.out.below B3.out)).mono ?_
  rintro e w4 ⟨rfl, hb4⟩
  have HK3 := hide (HK2.out.step hb4)
  have B4 := hide (chain B3.out hb4)
  clear hb4 c0 c1 b0 b1 b2 b3 b4 b5 b6 b7 b8
  obtain ⟨_, c0, c1, b0, b1, b2, b3, b4, b5, b6, b7, b8⟩ := HK3.out.all
  go_wp2_with fail
  refine (SZ.out _ (HI.out.below B4.out)).mono ?_
  rintro e w9 ⟨rfl, rfl⟩
  go_wp2
  go_ret
  exact ⟨rfl, B4.out⟩
set_option maxRecDepth 100000 in
set_option maxHeartbeats 2000000 in
theorem check_fits (h : IsTab w t O L) {l : Ls} (hl : l.ok) (hc : changeS ⟨false, l⟩ = true) (ht : thereL L l = false) (htk : takenB L l = false) (hcl : clashL L l = false) (hf : ¬ (1024 : Int) ≤ (L.length : Int)) :
    Calls Tryz.prog 22 #[Pt t, Cv ⟨false, l⟩] w (Gives (.int .i64 0) w) := by
  have C := hide (fun W => change_any ⟨false, l⟩ hl.p W)
  rw [hc] at C
  have T := hide (fun W hW => taken_any (w := W) (t := t) (O := O) (L := L) (l := l) hW hl)
  rw [htk] at T
  have CL := hide (fun W hW => clashes_any (w := W) (t := t) (O := O) (L := L) (l := l) hW hl)
  rw [hcl] at CL
  have SZ := hide (fun W hW => size_any (w := W) (t := t) (O := O) (L := L) hW)
  have HI := hide h
  obtain ⟨km, om, v, E, h, hs, hp⟩ := h
  have H := hide h
  have HP := hide hp
  have HL := hide hl
  have HT := hide ht
  have B0 : Hid (Below w.heap.size w (w.alloc (.cells (changeC ⟨false, l⟩) 41))) := hide (below_alloc _ _)
  have X0 : Hid ((w.alloc (.cells (changeC ⟨false, l⟩) 41)).heap[w.heap.size]? = some (.cells (changeC ⟨false, l⟩) 41 (0, 0))) := hide (heap_alloc_new w _)
  clear h hs hp hl hc ht htk hcl
  go_enter Tryz.func22, Tryz.ntmps22
  go_wp2_with fail
  generalize hV : w.alloc (.cells (changeC ⟨false, l⟩) 41) = V at *
  clear hV
  refine (C.out _).mono ?_
  rintro e w1 ⟨rfl, hb1⟩
  have B1 := hide (chain B0.out hb1)
  have H1 := hide (H.out.below B1.out)
  have K0 : KC w1 t km om w.heap.size ⟨false, l⟩ w1 := ⟨Below.refl _ _, H1.out.ends.tabs.1, H1.out.ends.tabs.2.1, (Fr.ofBelow hb1).keep X0.out (fun e => e)⟩
  clear hb1 C
  obtain ⟨_, c0, c1, b0, b1, b2, b3, b4, b5, b6, b7, b8⟩ := K0.all
  have PK : Hid (∀ w2, Below w1.heap.size w1 w2 → (Instr.lookup 66 (.map (some km)) (KOf l) true).run Tryz.prog w2 = .ok (.tuple #[.pointer none, .bool false]) w2) := hide (fun w2 hb => (look_there (H1.out.below hb) HP.out HL.out).2 HT.out)
  go_wp2_with fail
  go_region_held3 (fun W => KC w1 t km om w.heap.size ⟨false, l⟩ W ∧ W.cell? ⟨t, 0, none⟩ = some (.map (some km)) ∧ W.cell? ⟨t, 1, none⟩ = some (.map (some om)) ∧ W.cell? ⟨w.heap.size, 0, none⟩ = some (.bool false) ∧ W.cell? ⟨w.heap.size, 1, none⟩ = some (.int .i64 l.kind) ∧ W.cell? ⟨w.heap.size, 2, none⟩ = some (.int .u64 (hi l.p : Nat)) ∧ W.cell? ⟨w.heap.size, 3, none⟩ = some (.int .u64 (lo l.p : Nat)) ∧ W.cell? ⟨w.heap.size, 4, none⟩ = some (.int .i64 l.n) ∧
      W.cell? ⟨w.heap.size, 5, none⟩ = some (.int .i64 l.st) ∧ W.cell? ⟨w.heap.size, 6, none⟩ = some (.string l.cl) ∧ W.cell? ⟨w.heap.size, 7, none⟩ = some (.int .u32 (l.ia : Int)) ∧ W.cell? ⟨w.heap.size, 8, none⟩ = some (.int .i64 l.un))
    (first
      | exact (K0.step (below_drew _)).all
      | exact K1.all)
    (first
      | (go_at_call 46; refine (keyOf_any l _).mono ?_; rintro e w2 ⟨rfl, hb2⟩; have K1 := (K0.step (below_drew _)).step hb2; have hrun := PK.out _ K1.1; clear hb2))
  have HK1 := hide K1
  clear hrun c0 c1 b0 b1 b2 b3 b4 b5 b6 b7 b8 PK K0
  obtain ⟨_, c0, c1, b0, b1, b2, b3, b4, b5, b6, b7, b8⟩ := K1.all
  clear K1
  have B2 := hide (chain B1.out HK1.out.1)
  go_wp2_with fail
  refine (T.out _ (HI.out.below B2.out)).mono ?_
  rintro e w3 ⟨rfl, hb3⟩
  have HK2 := hide (HK1.out.step hb3)
  have B3 := hide (chain B2.out hb3)
  clear hb3 c0 c1 b0 b1 b2 b3 b4 b5 b6 b7 b8
  obtain ⟨_, c0, c1, b0, b1, b2, b3, b4, b5, b6, b7, b8⟩ := HK2.out.all
  go_wp2_with fail
  refine (CL.out _ (HI.out.below B3.out)).mono ?_
  rintro e w4 ⟨rfl, hb4⟩
  have HK3 := hide (HK2.out.step hb4)
  have B4 := hide (chain B3.out hb4)
  clear hb4 c0 c1 b0 b1 b2 b3 b4 b5 b6 b7 b8
  obtain ⟨_, c0, c1, b0, b1, b2, b3, b4, b5, b6, b7, b8⟩ := HK3.out.all
  go_wp2_with fail
  refine (SZ.out _ (HI.out.below B4.out)).mono ?_
  rintro e w9 ⟨rfl, rfl⟩
  go_wp2
  go_ret
  exact ⟨rfl, B4.out⟩
theorem check_any (h : IsTab w t O L) {c : Ch} (hl : c.l.ok) : Calls Tryz.prog 22 #[Pt t, Cv c] w (Gives (.int .i64 (errL L c : Nat)) w) := by
  rw [← chk_eq h.tabL]
  cases hc : changeS c with
  | false => rw [chk_bad hc]; exact check_bad hl.p hc
  | true =>
    obtain ⟨gone, l⟩ := c
    cases gone with
    | true =>
      rw [chk_gone hc rfl]
      cases ht : thereL L l with
      | true => rw [if_pos rfl]; exact check_gone_there h hl hc ht
      | false => rw [if_neg (by simp)]; exact check_gone_not h hl hc ht
    | false =>
      rw [chk_put hc rfl]
      show Calls _ _ _ _ (Gives (.int .i64 ((if takenB L l = true then 90 else if thereL L l = true then 0 else if clashL L l = true then 91 else if 1024 ≤ L.length then 63 else 0 : Nat) : Int)) w)
      cases htk : takenB L l with
      | true =>
        rw [if_pos rfl]
        cases ht : thereL L l with
        | true => exact check_taken_there h hl hc ht htk
        | false => exact check_taken_not h hl hc ht htk
      | false =>
        rw [if_neg (by simp)]
        cases ht : thereL L l with
        | true => rw [if_pos rfl]; exact check_there h hl hc ht htk
        | false =>
          rw [if_neg (by simp)]
          cases hcl : clashL L l with
          | true => rw [if_pos rfl]; exact check_clash h hl hc ht htk hcl
          | false =>
            rw [if_neg (by simp)]
            by_cases hf : 1024 ≤ L.length
            · rw [if_pos hf]; exact check_full h hl hc ht htk hcl (by omega)
            · rw [if_neg hf]; exact check_fits h hl hc ht htk hcl (by omega)
end Go.Proofs.YtpldkgollhbolaaGreat
