/-
  The contract of a table's add: one lease more. Conditions: the lease is sound, and meets, and shares an owner with, none of the table's.
-/
import Derived.Test.YtpldkgollhbolaaGreatT3
namespace Go.Proofs.YtpldkgollhbolaaGreat
open Go.RowKit Go.Joins Go.Maps

variable {w w' W W' : World} {t km om : Nat} {O : Nat → Prop} {v : Value} {E : List En}
theorem Ends.wider (h : Ends w t km om O v E) {O2 : Nat → Prop} (h1 : ∀ k, O k → O2 k) (h2 : ∀ k, O2 k → k < w.heap.size) : Ends w t km om O2 v E :=
  ⟨h.tab, h.row, h.node, ⟨h1 _ h.own.1, fun k hk => h1 _ (h.own.2.1 k hk), fun e he => h1 _ (h.own.2.2 e he)⟩, h2, h.len, h.frm⟩
abbrev nodeL (x : Ls) : Array Value := #[.int .i64 x.kind, .int .u64 (hi x.p : Nat), .int .u64 (lo x.p : Nat), .int .i64 x.n, .int .i64 x.st, .string x.cl, .int .u32 (x.ia : Int), .int .i64 x.un, .int .i64 0]
def AddPost (w : World) (t km om : Nat) (O : Nat → Prop) (E : List En) (x : Ls) (e : Ending) (w' : World) : Prop :=
  e = .returned (.tuple #[]) ∧ Fr O w w' ∧ ∃ v' E', TabE w' t km om (Gr O w w') v' E' ∧ (E'.map (·.2)).Perm (x :: E.map (·.2))
theorem node_new (h : Ends w t km om O v E) : ∀ e ∈ E, e.1 ≠ w.heap.size + 1 := fun e he e1 => by
  have := h.lt _ (h.own.2.2 e he); omega
theorem add_end {x : Ls} (hO : O km ∧ O om) (hne : km ≠ om) (hg : GoodL (x :: E.map (·.2))) {b : Nat} (F : Fr O w W) (hk : MapK W 80 km (RK ((b, x) :: E))) (ho : MapK W 78 om (RO ((b, x) :: E))) (hlt : ∀ k, O k → k < w.heap.size)
    {e : Ending} (hq : HPush W t km om (Gr O w W) (E ++ [(b, x)]) e W') : AddPost w t km om O E x e W' := by
  obtain ⟨rfl, hp, v', E', hE, hperm, hh⟩ := hq
  have p2 : E'.Perm ((b, x) :: E) := hperm.trans (List.perm_append_singleton _ _)
  have F2 : Fr O w W' := fr_gr F hp.fr
  have p3 : (E'.map (·.2)).Perm (x :: E.map (·.2)) := p2.map _
  refine ⟨rfl, F2, v', E', ⟨hE.wider (gr_gr F.size hp.fr.size) (gr_lt hlt F2.size), (hk.keep hp.maps).iff (fun key g => rk_perm p2.symm key g), (ho.keep hp.maps).iff (fun key g => ro_perm p2.symm key g), hh, hg.perm p3.symm, ⟨Or.inl hO.1, Or.inl hO.2⟩, hne⟩, p3⟩
set_option maxRecDepth 100000 in
set_option maxHeartbeats 4000000 in
theorem add_any (h : TabE w t km om O v E) (x : Ls) (hx : x.ok) (hg : GoodL (x :: E.map (·.2))) : Calls Tryz.prog 36 #[Pt t, Lv x] w (AddPost w t km om O E x) := by
  have hap := (List.pairwise_cons.1 hg.apart).1
  have hxl := (hg.ok x List.mem_cons_self).2
  have hkb : ∀ e ∈ E, keyB e.2 x = false := fun e he => by
    rw [keyB_comm]; exact (hap _ (List.mem_map.2 ⟨e, he, rfl⟩)).key hxl
  have hob : ∀ e ∈ E, ¬ (bndB x = true ∧ bndB e.2 = true ∧ ownB x e.2 = true) := fun e he => (hap _ (List.mem_map.2 ⟨e, he, rfl⟩)).2
  have hl : E.length + 1 ≤ 1024 := by have := hg.size; simpa using this
  have H := hide h
  have HX := hide hx
  have HG := hide hg
  have HK := hide hkb
  have HO := hide hob
  have HL := hide hl
  have M0 : Hid (MidA w ((w.alloc (.cells (leaseC x) 30)).alloc (.cells (nodeL x) 75)) t km om O v E w.heap.size x) := hide (MidA.start (x := x) h.ends)
  have K0 : Hid (MapK ((w.alloc (.cells (leaseC x) 30)).alloc (.cells (nodeL x) 75)) 80 km (RK E)) := hide (h.keys.keep (fun k es c hk => (KeepM.below (chain (below_alloc w _) (below_alloc _ _))) k es c hk))
  have O0 : Hid (MapK ((w.alloc (.cells (leaseC x) 30)).alloc (.cells (nodeL x) 75)) 78 om (RO E)) := hide (h.owns.keep (fun k es c hk => (KeepM.below (chain (below_alloc w _) (below_alloc _ _))) k es c hk))
  clear h hx hg hkb hob hl hap hxl
  by_cases hst : x.st = 1
  · have HS := hide hst
    have hs : (x.st == 1) = true := by rw [hst]; rfl
    clear hst
    go_enter Tryz.func36, Tryz.ntmps36
    go_wp2_with fail
    generalize hV : (w.alloc (.cells (leaseC x) 30)).alloc (.cells (nodeL x) 75) = V at *
    clear hV
    obtain ⟨c0, c1, c2⟩ := M0.out.ends.tabs
    obtain ⟨b0, b1, b2, b3, b4, b5, b6, b7⟩ := M0.out.box.cells
    have ht : t < V.heap.size := lt_of_block M0.out.ends.tab
    have hb : w.heap.size < V.heap.size := lt_of_block M0.out.box
    have PK : Hid (∀ w1, Below V.heap.size V.drew w1 → ∃ w2, (Instr.mapUpdate 66 (.map (some km)) (KOf x) (Pt (w.heap.size + 1))).run Tryz.prog w1 = .ok () w2 ∧ Hid (MidA w w2 t km om O v E w.heap.size x ∧ MapK w2 80 km (RK ((w.heap.size + 1, x) :: E)) ∧ MapK w2 78 om (RO E))) := hide (fun w1 hb1 => by
      have hb : Below V.heap.size V w1 := chain (below_drew V) hb1
      have K1 := K0.out.keep (KeepM.below hb)
      obtain ⟨w2, hrun, K2, F2⟩ := put_key K1 HX.out (w.heap.size + 1) (by have := HL.out; omega) HK.out
      exact ⟨w2, hrun, (M0.out.step hb).turn K1.isMap H.out.ownK.1 F2, K2, (O0.out.keep (KeepM.below hb)).fr F2 (fun e => H.out.ne e.symm)⟩)
    go_region_with (go_at_call 46; refine (keyOf_any x _).mono ?_; rintro e w1 ⟨rfl, hb1⟩; have q0 := keep_cell (chain (below_drew V) hb1) c0; obtain ⟨w2, hrun, H2⟩ := PK.out _ hb1; obtain ⟨d0, d1, d2⟩ := H2.out.1.ends.tabs; obtain ⟨e0, e1, e2, e3, e4, e5, e6, e7⟩ := H2.out.1.box.cells; clear hb1)
    all_goals clear q0 hrun c0 c1 c2 b0 b1 b2 b3 b4 b5 b6 b7
    all_goals
      go_wp2_with fail
      have PO : Hid (∀ w3, Below w2.heap.size w2.drew w3 → ∃ w4, (Instr.mapUpdate 67 (.map (some om)) (OOf x) (Pt (w.heap.size + 1))).run Tryz.prog w3 = .ok () w4 ∧ Hid (MidA w w4 t km om O v E w.heap.size x ∧ MapK w4 80 km (RK ((w.heap.size + 1, x) :: E)) ∧ MapK w4 78 om (RO ((w.heap.size + 1, x) :: E)))) := hide (fun w3 hb3 => by
        have hb : Below w2.heap.size w2 w3 := chain (below_drew w2) hb3
        have O3 := H2.out.2.2.keep (KeepM.below hb)
        obtain ⟨w4, hrun, O4, F4⟩ := put_own O3 HX.out (w.heap.size + 1) (by have := HL.out; omega) HS.out HO.out
        exact ⟨w4, hrun, (H2.out.1.step hb).turn O3.isMap H.out.ownK.2 F4, (H2.out.2.1.keep (KeepM.below hb)).fr F4 H.out.ne, O4⟩)
      go_region_with (go_at_call 57; refine (ownerOf_any x _).mono ?_; rintro e w3 ⟨rfl, hb3⟩; have q1 := keep_cell (chain (below_drew w2) hb3) d1; obtain ⟨w4, hrun, H4⟩ := PO.out _ hb3; obtain ⟨g0, g1, g2⟩ := H4.out.1.ends.tabs; clear hb3)
    all_goals
      clear q1 hrun d0 d1 d2 e0 e1 e2 e3 e4 e5 e6 e7
      have PU := hide (hpush_any (H4.out.1.ends.wider (O2 := Gr O w w4) (fun _ e => Or.inl e) (gr_lt H.out.ends.lt H4.out.1.fr.size)) H4.out.1.node (Or.inr ⟨by omega, lt_of_block H4.out.1.node⟩) (node_new H.out.ends) (by have := HL.out; omega) H.out.heap)
      go_wp2_with fail
      refine PU.out.mono ?_
      rintro e w5 hq
      have hq2 := hide hq
      obtain ⟨rfl, -⟩ := hq
      go_wp2
      go_end0
      exact add_end H.out.ownK H.out.ne HG.out H4.out.1.fr H4.out.2.1 H4.out.2.2 H.out.ends.lt hq2.out
  · have HS := hide hst
    have hs : (x.st == 1) = false := by rw [beq_eq_false_iff_ne]; exact hst
    clear hst
    go_enter Tryz.func36, Tryz.ntmps36
    go_wp2_with fail
    generalize hV : (w.alloc (.cells (leaseC x) 30)).alloc (.cells (nodeL x) 75) = V at *
    clear hV
    obtain ⟨c0, c1, c2⟩ := M0.out.ends.tabs
    obtain ⟨b0, b1, b2, b3, b4, b5, b6, b7⟩ := M0.out.box.cells
    have ht : t < V.heap.size := lt_of_block M0.out.ends.tab
    have hb : w.heap.size < V.heap.size := lt_of_block M0.out.box
    have PK : Hid (∀ w1, Below V.heap.size V.drew w1 → ∃ w2, (Instr.mapUpdate 66 (.map (some km)) (KOf x) (Pt (w.heap.size + 1))).run Tryz.prog w1 = .ok () w2 ∧ Hid (MidA w w2 t km om O v E w.heap.size x ∧ MapK w2 80 km (RK ((w.heap.size + 1, x) :: E)) ∧ MapK w2 78 om (RO E))) := hide (fun w1 hb1 => by
      have hb : Below V.heap.size V w1 := chain (below_drew V) hb1
      have K1 := K0.out.keep (KeepM.below hb)
      obtain ⟨w2, hrun, K2, F2⟩ := put_key K1 HX.out (w.heap.size + 1) (by have := HL.out; omega) HK.out
      exact ⟨w2, hrun, (M0.out.step hb).turn K1.isMap H.out.ownK.1 F2, K2, (O0.out.keep (KeepM.below hb)).fr F2 (fun e => H.out.ne e.symm)⟩)
    go_region_with (go_at_call 46; refine (keyOf_any x _).mono ?_; rintro e w1 ⟨rfl, hb1⟩; have q0 := keep_cell (chain (below_drew V) hb1) c0; obtain ⟨w2, hrun, H2⟩ := PK.out _ hb1; obtain ⟨d0, d1, d2⟩ := H2.out.1.ends.tabs; obtain ⟨e0, e1, e2, e3, e4, e5, e6, e7⟩ := H2.out.1.box.cells; clear hb1)
    all_goals clear q0 hrun c0 c1 c2 b0 b1 b2 b3 b4 b5 b6 b7
    all_goals
      have HO2 : Hid (MapK w2 78 om (RO ((w.heap.size + 1, x) :: E))) := hide (H2.out.2.2.iff (fun key g => ro_not HS.out key g))
      have PU := hide (hpush_any (H2.out.1.ends.wider (O2 := Gr O w w2) (fun _ e => Or.inl e) (gr_lt H.out.ends.lt H2.out.1.fr.size)) H2.out.1.node (Or.inr ⟨by omega, lt_of_block H2.out.1.node⟩) (node_new H.out.ends) (by have := HL.out; omega) H.out.heap)
      go_wp2_with fail
      refine PU.out.mono ?_
      rintro e w5 hq
      have hq2 := hide hq
      obtain ⟨rfl, -⟩ := hq
      go_wp2
      go_end0
      exact add_end H.out.ownK H.out.ne HG.out H2.out.1.fr H2.out.2.1 HO2.out H.out.ends.lt hq2.out
end Go.Proofs.YtpldkgollhbolaaGreat
