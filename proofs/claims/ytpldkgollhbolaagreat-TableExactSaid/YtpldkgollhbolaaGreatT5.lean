/-
  The contract of a table's change, one way of four. Conditions: the change's lease is one of its type; one that is put is sound and in nobody's way.
  The contract of a table's change, one way of four. Conditions: the change's lease is one of its type; one that is put is sound and in nobody's way.
-/
import Derived.Test.YtpldkgollhbolaaGreatT4
namespace Go.Proofs.YtpldkgollhbolaaGreat
open Go.RowKit Go.Joins Go.Maps

variable {w w' W W' : World} {t km om : Nat} {O : Nat → Prop} {v : Value} {E : List En} {L : List Ls}
set_option maxRecDepth 100000 in
set_option maxHeartbeats 4000000 in
theorem chg_yes_gone (h : TabE w t km om O v E) (hs : SrtL L) (hp : L.Perm (E.map (·.2))) {l : Ls} (hl : l.ok) {i g : Nat} {y : Ls} (hi : E[i]? = some (g, y)) (hk : keyB y l = true) :
    Calls Tryz.prog 24 #[Pt t, Cv ⟨true, l⟩] w (ChgPost w t km om O (chgL L ⟨true, l⟩) (Cv ⟨false, y⟩)) := by
  have H := hide h
  have HL := hide hl
  have HS := hide hs
  have HP := hide hp
  have HK := hide hk
  have HI := hide hi
  have M0 := hide (MidC.start w O ⟨true, l⟩)
  have B0 : Hid (Below w.heap.size w (((w.alloc (.cells (changeC ⟨true, l⟩) 41)).alloc (.cells zeroC 41)).alloc (.cells (backC ⟨true, l⟩) 41))) := hide (chain (chain (below_alloc _ _) (below_alloc _ _)) (below_alloc _ _))
  have Z0 : w.heap.size + 1 + 1 < (((w.alloc (.cells (changeC ⟨true, l⟩) 41)).alloc (.cells zeroC 41)).alloc (.cells (backC ⟨true, l⟩) 41)).heap.size := by simp
  clear h hl hs hp hk hi
  go_enter Tryz.func24, Tryz.ntmps24
  go_wp2_with fail
  generalize hV : ((w.alloc (.cells (changeC ⟨true, l⟩) 41)).alloc (.cells zeroC 41)).alloc (.cells (backC ⟨true, l⟩) 41) = V at *
  clear hV
  have H0 := hide (H.out.below B0.out)
  obtain ⟨c0, c1, c2⟩ := H0.out.ends.tabs
  obtain ⟨a0, a1, a2, a3, a4, a5, a6, a7, a8, af⟩ := cells9 M0.out.box
  obtain ⟨r0, r1, r2, r3, r4, r5, r6, r7, r8, rf⟩ := cells9 M0.out.res
  obtain ⟨k0, k1, k2, k3, k4, k5, k6, k7, k8, kf⟩ := cells9 M0.out.back
  have PK : Hid (∀ w1, Below V.heap.size V.drew w1 → (Instr.lookup 66 (.map (some km)) (KOf l) true).run Tryz.prog w1 = .ok (.tuple #[Pt g, .bool true]) w1 ∧ Hid (TabE w1 t km om O v E ∧ MidC w w1 O ⟨true, l⟩ (backC ⟨true, l⟩) ∧ V.heap.size ≤ w1.heap.size)) := hide (fun w1 hb1 => by
    have hb : Below V.heap.size V w1 := chain (below_drew V) hb1
    have h1 := H0.out.below hb
    exact ⟨look_yes h1 (List.mem_of_getElem? HI.out) HL.out HK.out, h1, M0.out.step hb, hb.size⟩)
  go_region_with (go_at_call 46; refine (keyOf_any l _).mono ?_; rintro e w1 ⟨rfl, hb1⟩; have q0 := keep_cell (chain (below_drew V) hb1) c0; obtain ⟨hrun, H1⟩ := PK.out _ hb1; clear hb1)
  all_goals
    clear q0 hrun c0 c1 c2 PK a0 a1 a2 a3 a4 a5 a6 a7 a8 af r0 r1 r2 r3 r4 r5 r6 r7 r8 rf k0 k1 k2 k3 k4 k5 k6 k7 k8 kf
    obtain ⟨a0, a1, a2, a3, a4, a5, a6, a7, a8, af⟩ := cells9 (hide H1.out.2.1).out.box
    obtain ⟨r0, r1, r2, r3, r4, r5, r6, r7, r8, rf⟩ := cells9 (hide H1.out.2.1).out.res
    obtain ⟨k0, k1, k2, k3, k4, k5, k6, k7, k8, kf⟩ := cells9 (hide H1.out.2.1).out.back
    have Z1 : w.heap.size + 1 + 1 < w1.heap.size := Nat.lt_of_lt_of_le Z0 H1.out.2.2
    obtain ⟨b0, b1, b2, b3, b4, b5, b6, b7, b8⟩ := node_cells (H1.out.1.ends.node _ _ HI.out)
    go_wp2_with fail
    have M2 : Hid (MidC w (((((((((w1.setCell ⟨w.heap.size + 1 + 1, 0, none⟩ (.bool false)).setCell ⟨w.heap.size + 1 + 1, 1, none⟩ (.int .i64 y.kind)).setCell ⟨w.heap.size + 1 + 1, 2, none⟩ (.int .u64 (hi y.p : Nat))).setCell ⟨w.heap.size + 1 + 1, 3, none⟩ (.int .u64 (lo y.p : Nat))).setCell ⟨w.heap.size + 1 + 1, 4, none⟩ (.int .i64 y.n)).setCell ⟨w.heap.size + 1 + 1, 5, none⟩ (.int .i64 y.st)).setCell ⟨w.heap.size + 1 + 1, 6, none⟩ (.string y.cl)).setCell ⟨w.heap.size + 1 + 1, 7, none⟩ (.int .u32 (y.ia : Int))).setCell ⟨w.heap.size + 1 + 1, 8, none⟩ (.int .i64 y.un)) O ⟨true, l⟩ #[.bool false, .int .i64 y.kind, .int .u64 (hi y.p : Nat), .int .u64 (lo y.p : Nat), .int .i64 y.n, .int .i64 y.st, .string y.cl, .int .u32 (y.ia : Int), .int .i64 y.un]) := hide (H1.out.2.1.backed (.bool false) (.int .i64 y.kind) (.int .u64 (hi y.p : Nat)) (.int .u64 (lo y.p : Nat)) (.int .i64 y.n) (.int .i64 y.st) (.string y.cl) (.int .u32 (y.ia : Int)) (.int .i64 y.un))
    have T2 : Hid (TabE (((((((((w1.setCell ⟨w.heap.size + 1 + 1, 0, none⟩ (.bool false)).setCell ⟨w.heap.size + 1 + 1, 1, none⟩ (.int .i64 y.kind)).setCell ⟨w.heap.size + 1 + 1, 2, none⟩ (.int .u64 (hi y.p : Nat))).setCell ⟨w.heap.size + 1 + 1, 3, none⟩ (.int .u64 (lo y.p : Nat))).setCell ⟨w.heap.size + 1 + 1, 4, none⟩ (.int .i64 y.n)).setCell ⟨w.heap.size + 1 + 1, 5, none⟩ (.int .i64 y.st)).setCell ⟨w.heap.size + 1 + 1, 6, none⟩ (.string y.cl)).setCell ⟨w.heap.size + 1 + 1, 7, none⟩ (.int .u32 (y.ia : Int))).setCell ⟨w.heap.size + 1 + 1, 8, none⟩ (.int .i64 y.un)) t km om O v E) := hide (H1.out.1.fr (set9_fr w1 (w.heap.size + 1 + 1) (.bool false) (.int .i64 y.kind) (.int .u64 (hi y.p : Nat)) (.int .u64 (lo y.p : Nat)) (.int .i64 y.n) (.int .i64 y.st) (.string y.cl) (.int .u32 (y.ia : Int)) (.int .i64 y.un)) (fun k hk e => by have := H.out.ends.lt k hk; omega))
    have Z2 : w.heap.size + 1 + 1 < (((((((((w1.setCell ⟨w.heap.size + 1 + 1, 0, none⟩ (.bool false)).setCell ⟨w.heap.size + 1 + 1, 1, none⟩ (.int .i64 y.kind)).setCell ⟨w.heap.size + 1 + 1, 2, none⟩ (.int .u64 (hi y.p : Nat))).setCell ⟨w.heap.size + 1 + 1, 3, none⟩ (.int .u64 (lo y.p : Nat))).setCell ⟨w.heap.size + 1 + 1, 4, none⟩ (.int .i64 y.n)).setCell ⟨w.heap.size + 1 + 1, 5, none⟩ (.int .i64 y.st)).setCell ⟨w.heap.size + 1 + 1, 6, none⟩ (.string y.cl)).setCell ⟨w.heap.size + 1 + 1, 7, none⟩ (.int .u32 (y.ia : Int))).setCell ⟨w.heap.size + 1 + 1, 8, none⟩ (.int .i64 y.un)).heap.size := by rw [set9_size]; exact Z1
    generalize (((((((((w1.setCell ⟨w.heap.size + 1 + 1, 0, none⟩ (.bool false)).setCell ⟨w.heap.size + 1 + 1, 1, none⟩ (.int .i64 y.kind)).setCell ⟨w.heap.size + 1 + 1, 2, none⟩ (.int .u64 (hi y.p : Nat))).setCell ⟨w.heap.size + 1 + 1, 3, none⟩ (.int .u64 (lo y.p : Nat))).setCell ⟨w.heap.size + 1 + 1, 4, none⟩ (.int .i64 y.n)).setCell ⟨w.heap.size + 1 + 1, 5, none⟩ (.int .i64 y.st)).setCell ⟨w.heap.size + 1 + 1, 6, none⟩ (.string y.cl)).setCell ⟨w.heap.size + 1 + 1, 7, none⟩ (.int .u32 (y.ia : Int))).setCell ⟨w.heap.size + 1 + 1, 8, none⟩ (.int .i64 y.un)) = W2 at *
    clear Z1
    have Z1 := Z2
    clear Z2 b0 b1 b2 b3 b4 b5 b6 b7 b8 a0 a1 a2 a3 a4 a5 a6 a7 a8 af r0 r1 r2 r3 r4 r5 r6 r7 r8 rf k0 k1 k2 k3 k4 k5 k6 k7 k8 kf
    have RM := hide (remove_any T2.out HI.out)
    refine RM.out.mono ?_
    rintro e w3 ⟨rfl, F3, v3, E3, T3, P3⟩
    have HF3 := hide F3
    have HT3 := hide T3
    have HP3 := hide P3
    have M3 := hide (M2.out.act H.out.ends.lt F3 (fun _ e => Or.inl e))
    have Z3 : w.heap.size + 1 + 1 < w3.heap.size := Nat.lt_of_lt_of_le Z1 F3.size
    clear F3 T3 P3
    have PR : Hid ((restL L l).Perm (E3.map (·.2))) := hide (by
      have hg : GoodL L := H.out.good.perm HP.out.symm
      have hy : y ∈ L := HP.out.mem_iff.2 (List.mem_map.2 ⟨_, List.mem_of_getElem? HI.out, rfl⟩)
      have p := rest_one hg hy
      rw [restL_key HK.out] at p
      exact ((List.perm_cons y).1 ((HP3.out.trans HP.out.symm).trans p)).symm)
    obtain ⟨a0, a1, a2, a3, a4, a5, a6, a7, a8, af⟩ := cells9 M3.out.box
    obtain ⟨r0, r1, r2, r3, r4, r5, r6, r7, r8, rf⟩ := cells9 M3.out.res
    obtain ⟨k0, k1, k2, k3, k4, k5, k6, k7, k8, kf⟩ := cells9 M3.out.back
    have LT := hide H.out.ends.lt
    have END := hide (chg_end (L := restL L l) M3.out HT3.out (HS.out.sublist (restL_sub L l)) PR.out LT.out (fun k hk => gr_wide hk Z1) (r := Cv ⟨false, y⟩) rfl)
    go_wp2
    exact bodyPost_ret (v := Cv ⟨false, y⟩) (by simp [results, Tryz.results24, go_sem, *]) rfl END.out
end Go.Proofs.YtpldkgollhbolaaGreat
namespace Go.Proofs.YtpldkgollhbolaaGreat
open Go.RowKit Go.Joins Go.Maps

variable {w w' W W' : World} {t km om : Nat} {O : Nat → Prop} {v : Value} {E : List En} {L : List Ls}
set_option maxRecDepth 100000 in
set_option maxHeartbeats 4000000 in
theorem chg_yes_put (h : TabE w t km om O v E) (hs : SrtL L) (hp : L.Perm (E.map (·.2))) {l : Ls} (hl : l.ok) {i g : Nat} {y : Ls} (hi : E[i]? = some (g, y)) (hk : keyB y l = true) (hgd : GoodL (l :: (restL L l))) :
    Calls Tryz.prog 24 #[Pt t, Cv ⟨false, l⟩] w (ChgPost w t km om O (chgL L ⟨false, l⟩) (Cv ⟨false, y⟩)) := by
  have H := hide h
  have HL := hide hl
  have HS := hide hs
  have HP := hide hp
  have HK := hide hk
  have HG := hide hgd
  have HI := hide hi
  have M0 := hide (MidC.start w O ⟨false, l⟩)
  have B0 : Hid (Below w.heap.size w (((w.alloc (.cells (changeC ⟨false, l⟩) 41)).alloc (.cells zeroC 41)).alloc (.cells (backC ⟨false, l⟩) 41))) := hide (chain (chain (below_alloc _ _) (below_alloc _ _)) (below_alloc _ _))
  have Z0 : w.heap.size + 1 + 1 < (((w.alloc (.cells (changeC ⟨false, l⟩) 41)).alloc (.cells zeroC 41)).alloc (.cells (backC ⟨false, l⟩) 41)).heap.size := by simp
  clear h hl hs hp hk hgd hi
  go_enter Tryz.func24, Tryz.ntmps24
  go_wp2_with fail
  generalize hV : ((w.alloc (.cells (changeC ⟨false, l⟩) 41)).alloc (.cells zeroC 41)).alloc (.cells (backC ⟨false, l⟩) 41) = V at *
  clear hV
  have H0 := hide (H.out.below B0.out)
  obtain ⟨c0, c1, c2⟩ := H0.out.ends.tabs
  obtain ⟨a0, a1, a2, a3, a4, a5, a6, a7, a8, af⟩ := cells9 M0.out.box
  obtain ⟨r0, r1, r2, r3, r4, r5, r6, r7, r8, rf⟩ := cells9 M0.out.res
  obtain ⟨k0, k1, k2, k3, k4, k5, k6, k7, k8, kf⟩ := cells9 M0.out.back
  have PK : Hid (∀ w1, Below V.heap.size V.drew w1 → (Instr.lookup 66 (.map (some km)) (KOf l) true).run Tryz.prog w1 = .ok (.tuple #[Pt g, .bool true]) w1 ∧ Hid (TabE w1 t km om O v E ∧ MidC w w1 O ⟨false, l⟩ (backC ⟨false, l⟩) ∧ V.heap.size ≤ w1.heap.size)) := hide (fun w1 hb1 => by
    have hb : Below V.heap.size V w1 := chain (below_drew V) hb1
    have h1 := H0.out.below hb
    exact ⟨look_yes h1 (List.mem_of_getElem? HI.out) HL.out HK.out, h1, M0.out.step hb, hb.size⟩)
  go_region_with (go_at_call 46; refine (keyOf_any l _).mono ?_; rintro e w1 ⟨rfl, hb1⟩; have q0 := keep_cell (chain (below_drew V) hb1) c0; obtain ⟨hrun, H1⟩ := PK.out _ hb1; clear hb1)
  all_goals
    clear q0 hrun c0 c1 c2 PK a0 a1 a2 a3 a4 a5 a6 a7 a8 af r0 r1 r2 r3 r4 r5 r6 r7 r8 rf k0 k1 k2 k3 k4 k5 k6 k7 k8 kf
    obtain ⟨a0, a1, a2, a3, a4, a5, a6, a7, a8, af⟩ := cells9 (hide H1.out.2.1).out.box
    obtain ⟨r0, r1, r2, r3, r4, r5, r6, r7, r8, rf⟩ := cells9 (hide H1.out.2.1).out.res
    obtain ⟨k0, k1, k2, k3, k4, k5, k6, k7, k8, kf⟩ := cells9 (hide H1.out.2.1).out.back
    have Z1 : w.heap.size + 1 + 1 < w1.heap.size := Nat.lt_of_lt_of_le Z0 H1.out.2.2
    obtain ⟨b0, b1, b2, b3, b4, b5, b6, b7, b8⟩ := node_cells (H1.out.1.ends.node _ _ HI.out)
    go_wp2_with fail
    have M2 : Hid (MidC w (((((((((w1.setCell ⟨w.heap.size + 1 + 1, 0, none⟩ (.bool false)).setCell ⟨w.heap.size + 1 + 1, 1, none⟩ (.int .i64 y.kind)).setCell ⟨w.heap.size + 1 + 1, 2, none⟩ (.int .u64 (hi y.p : Nat))).setCell ⟨w.heap.size + 1 + 1, 3, none⟩ (.int .u64 (lo y.p : Nat))).setCell ⟨w.heap.size + 1 + 1, 4, none⟩ (.int .i64 y.n)).setCell ⟨w.heap.size + 1 + 1, 5, none⟩ (.int .i64 y.st)).setCell ⟨w.heap.size + 1 + 1, 6, none⟩ (.string y.cl)).setCell ⟨w.heap.size + 1 + 1, 7, none⟩ (.int .u32 (y.ia : Int))).setCell ⟨w.heap.size + 1 + 1, 8, none⟩ (.int .i64 y.un)) O ⟨false, l⟩ #[.bool false, .int .i64 y.kind, .int .u64 (hi y.p : Nat), .int .u64 (lo y.p : Nat), .int .i64 y.n, .int .i64 y.st, .string y.cl, .int .u32 (y.ia : Int), .int .i64 y.un]) := hide (H1.out.2.1.backed (.bool false) (.int .i64 y.kind) (.int .u64 (hi y.p : Nat)) (.int .u64 (lo y.p : Nat)) (.int .i64 y.n) (.int .i64 y.st) (.string y.cl) (.int .u32 (y.ia : Int)) (.int .i64 y.un))
    have T2 : Hid (TabE (((((((((w1.setCell ⟨w.heap.size + 1 + 1, 0, none⟩ (.bool false)).setCell ⟨w.heap.size + 1 + 1, 1, none⟩ (.int .i64 y.kind)).setCell ⟨w.heap.size + 1 + 1, 2, none⟩ (.int .u64 (hi y.p : Nat))).setCell ⟨w.heap.size + 1 + 1, 3, none⟩ (.int .u64 (lo y.p : Nat))).setCell ⟨w.heap.size + 1 + 1, 4, none⟩ (.int .i64 y.n)).setCell ⟨w.heap.size + 1 + 1, 5, none⟩ (.int .i64 y.st)).setCell ⟨w.heap.size + 1 + 1, 6, none⟩ (.string y.cl)).setCell ⟨w.heap.size + 1 + 1, 7, none⟩ (.int .u32 (y.ia : Int))).setCell ⟨w.heap.size + 1 + 1, 8, none⟩ (.int .i64 y.un)) t km om O v E) := hide (H1.out.1.fr (set9_fr w1 (w.heap.size + 1 + 1) (.bool false) (.int .i64 y.kind) (.int .u64 (hi y.p : Nat)) (.int .u64 (lo y.p : Nat)) (.int .i64 y.n) (.int .i64 y.st) (.string y.cl) (.int .u32 (y.ia : Int)) (.int .i64 y.un)) (fun k hk e => by have := H.out.ends.lt k hk; omega))
    have Z2 : w.heap.size + 1 + 1 < (((((((((w1.setCell ⟨w.heap.size + 1 + 1, 0, none⟩ (.bool false)).setCell ⟨w.heap.size + 1 + 1, 1, none⟩ (.int .i64 y.kind)).setCell ⟨w.heap.size + 1 + 1, 2, none⟩ (.int .u64 (hi y.p : Nat))).setCell ⟨w.heap.size + 1 + 1, 3, none⟩ (.int .u64 (lo y.p : Nat))).setCell ⟨w.heap.size + 1 + 1, 4, none⟩ (.int .i64 y.n)).setCell ⟨w.heap.size + 1 + 1, 5, none⟩ (.int .i64 y.st)).setCell ⟨w.heap.size + 1 + 1, 6, none⟩ (.string y.cl)).setCell ⟨w.heap.size + 1 + 1, 7, none⟩ (.int .u32 (y.ia : Int))).setCell ⟨w.heap.size + 1 + 1, 8, none⟩ (.int .i64 y.un)).heap.size := by rw [set9_size]; exact Z1
    generalize (((((((((w1.setCell ⟨w.heap.size + 1 + 1, 0, none⟩ (.bool false)).setCell ⟨w.heap.size + 1 + 1, 1, none⟩ (.int .i64 y.kind)).setCell ⟨w.heap.size + 1 + 1, 2, none⟩ (.int .u64 (hi y.p : Nat))).setCell ⟨w.heap.size + 1 + 1, 3, none⟩ (.int .u64 (lo y.p : Nat))).setCell ⟨w.heap.size + 1 + 1, 4, none⟩ (.int .i64 y.n)).setCell ⟨w.heap.size + 1 + 1, 5, none⟩ (.int .i64 y.st)).setCell ⟨w.heap.size + 1 + 1, 6, none⟩ (.string y.cl)).setCell ⟨w.heap.size + 1 + 1, 7, none⟩ (.int .u32 (y.ia : Int))).setCell ⟨w.heap.size + 1 + 1, 8, none⟩ (.int .i64 y.un)) = W2 at *
    clear Z1
    have Z1 := Z2
    clear Z2 b0 b1 b2 b3 b4 b5 b6 b7 b8 a0 a1 a2 a3 a4 a5 a6 a7 a8 af r0 r1 r2 r3 r4 r5 r6 r7 r8 rf k0 k1 k2 k3 k4 k5 k6 k7 k8 kf
    have RM := hide (remove_any T2.out HI.out)
    refine RM.out.mono ?_
    rintro e w3 ⟨rfl, F3, v3, E3, T3, P3⟩
    have HF3 := hide F3
    have HT3 := hide T3
    have HP3 := hide P3
    have M3 := hide (M2.out.act H.out.ends.lt F3 (fun _ e => Or.inl e))
    have Z3 : w.heap.size + 1 + 1 < w3.heap.size := Nat.lt_of_lt_of_le Z1 F3.size
    clear F3 T3 P3
    have PR : Hid ((restL L l).Perm (E3.map (·.2))) := hide (by
      have hg : GoodL L := H.out.good.perm HP.out.symm
      have hy : y ∈ L := HP.out.mem_iff.2 (List.mem_map.2 ⟨_, List.mem_of_getElem? HI.out, rfl⟩)
      have p := rest_one hg hy
      rw [restL_key HK.out] at p
      exact ((List.perm_cons y).1 ((HP3.out.trans HP.out.symm).trans p)).symm)
    obtain ⟨a0, a1, a2, a3, a4, a5, a6, a7, a8, af⟩ := cells9 M3.out.box
    obtain ⟨r0, r1, r2, r3, r4, r5, r6, r7, r8, rf⟩ := cells9 M3.out.res
    obtain ⟨k0, k1, k2, k3, k4, k5, k6, k7, k8, kf⟩ := cells9 M3.out.back
    have LT := hide H.out.ends.lt
    have AD := hide (add_any HT3.out l HL.out (HG.out.perm (PR.out.cons l)))
    go_wp2_with fail
    refine AD.out.mono ?_
    rintro e w4 ⟨rfl, F4, v4, E4, T4, P4⟩
    have HF4 := hide F4
    have HT4 := hide T4
    have HP4 := hide P4
    have M4 := hide (M3.out.act LT.out F4 (fun k hk => gr_wide hk Z1))
    clear F4 T4 P4 a0 a1 a2 a3 a4 a5 a6 a7 a8 af r0 r1 r2 r3 r4 r5 r6 r7 r8 rf k0 k1 k2 k3 k4 k5 k6 k7 k8 kf
    obtain ⟨a0, a1, a2, a3, a4, a5, a6, a7, a8, af⟩ := cells9 M4.out.box
    obtain ⟨r0, r1, r2, r3, r4, r5, r6, r7, r8, rf⟩ := cells9 M4.out.res
    obtain ⟨k0, k1, k2, k3, k4, k5, k6, k7, k8, kf⟩ := cells9 M4.out.back
    have END := hide (chg_end (L := putL l (restL L l)) M4.out HT4.out (putL_srt (HS.out.sublist (restL_sub L l)) (fun z hz => (mem_restL.1 hz).2)) (((putL_perm l _).trans (PR.out.cons l)).trans HP4.out.symm) LT.out (fun k hk => by
      rcases hk with hk | hk
      · exact gr_wide hk Z1
      · exact Or.inr (by omega)) (r := Cv ⟨false, y⟩) rfl)
    go_wp2
    exact bodyPost_ret (v := Cv ⟨false, y⟩) (by simp [results, Tryz.results24, go_sem, *]) rfl END.out
end Go.Proofs.YtpldkgollhbolaaGreat
