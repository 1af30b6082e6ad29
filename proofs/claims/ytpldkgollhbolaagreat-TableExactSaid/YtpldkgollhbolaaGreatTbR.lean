/-
  The contract of a table's remove: one lease less. Condition: the node is one of the table's.
-/
import Derived.Test.YtpldkgollhbolaaGreatTbO
namespace Go.Proofs.YtpldkgollhbolaaGreat
open Go.RowKit Go.Joins Go.Maps

variable {w w' W W' : World} {t km om : Nat} {O : Nat → Prop} {v : Value} {E : List En}
def DK (E : List En) (x : Ls) (key : Value) (g : Nat) : Prop := key ≠ KOf x ∧ RK E key g
def DO (E : List En) (x : Ls) (key : Value) (g : Nat) : Prop := key ≠ OOf x ∧ RO E key g
theorem dk_rest {E' : List En} {x : En} (hp : (x :: E').Perm E) (hg : GoodL (E.map (·.2))) (key : Value) (g : Nat) : DK E x.2 key g ↔ RK E' key g := by
  have hg2 : GoodL ((x :: E').map (·.2)) := hg.perm (hp.map _).symm
  have hap := (List.pairwise_cons.1 hg2.apart).1
  have hxl := (hg2.ok x.2 List.mem_cons_self).2
  constructor
  · rintro ⟨hne, y, hy, rfl⟩
    rcases List.mem_cons.1 (hp.mem_iff.2 hy) with e | hy
    · exact (hne (by rw [← e])).elim
    · exact ⟨y, hy, rfl⟩
  · rintro ⟨y, hy, rfl⟩
    refine ⟨fun e => ?_, y, hp.mem_iff.1 (List.mem_cons_of_mem _ hy), rfl⟩
    have a := (hap y (List.mem_map.2 ⟨_, hy, rfl⟩)).key hxl
    rw [keyB_comm] at a
    unfold keyB at a
    rw [decide_eq_true (key_inj.1 e)] at a; cases a
theorem do_rest {E' : List En} {x : En} (hp : (x :: E').Perm E) (hg : GoodL (E.map (·.2))) (key : Value) (g : Nat) : DO E x.2 key g ↔ RO E' key g := by
  have hg2 : GoodL ((x :: E').map (·.2)) := hg.perm (hp.map _).symm
  have hap := (List.pairwise_cons.1 hg2.apart).1
  have hxl := (hg2.ok x.2 List.mem_cons_self).2
  constructor
  · rintro ⟨hne, y, hy, hyb, rfl⟩
    rcases List.mem_cons.1 (hp.mem_iff.2 hy) with e | hy
    · exact (hne (by rw [← e])).elim
    · exact ⟨y, hy, hyb, rfl⟩
  · rintro ⟨y, hy, hyb, rfl⟩
    refine ⟨fun e => ?_, y, hp.mem_iff.1 (List.mem_cons_of_mem _ hy), hyb, rfl⟩
    obtain ⟨a, b, c⟩ := own_inj.1 e
    have hyl := (hg2.ok y (List.mem_cons_of_mem _ (List.mem_map.2 ⟨_, hy, rfl⟩))).2
    by_cases hx : x.2.st = 1
    · exact (hap y (List.mem_map.2 ⟨_, hy, rfl⟩)).2 ⟨decide_eq_true hx, decide_eq_true hyb, decide_eq_true ⟨a.symm, b.symm, c.symm⟩⟩
    · have h1 := (bound_cl hxl).2 hx
      have h2 := (bound_cl hyl).1 hyb
      rw [b] at h2; exact h2 h1
theorem del_key (h : MapK W 80 km (RK E)) {x : Ls} (hx : x.ok) :
    ∃ W', (Builtin.delete_ #[66, 80] 0 #[.map (some km), KOf x]).run Tryz.prog W = .ok (.tuple #[]) W' ∧ MapK W' 80 km (DK E x) ∧ Fr (fun k => k = km) W W' := by
  obtain ⟨W', h1, h2, h3⟩ := h.del KK Tryz.underlying66 (ok_key hx) 0
  exact ⟨W', h1, h2, Fr.turned h3⟩
theorem del_own (h : MapK W 78 om (RO E)) {x : Ls} (hx : x.ok) :
    ∃ W', (Builtin.delete_ #[67, 78] 0 #[.map (some om), OOf x]).run Tryz.prog W = .ok (.tuple #[]) W' ∧ MapK W' 78 om (DO E x) ∧ Fr (fun k => k = om) W W' := by
  obtain ⟨W', h1, h2, h3⟩ := h.del KO Tryz.underlying67 (ok_own hx) 0
  exact ⟨W', h1, h2, Fr.turned h3⟩
structure MidR (w W : World) (t km om : Nat) (O : Nat → Prop) (v : Value) (E : List En) : Prop where
  fr : Fr O w W
  ends : Ends W t km om O v E
theorem MidR.step (h : MidR w W t km om O v E) (hb : Below W.heap.size W W') : MidR w W' t km om O v E := ⟨h.fr.andNo (Fr.ofBelow hb), h.ends.below hb⟩
theorem MidR.turn {m : Nat} (h : MidR w W t km om O v E) (hm : ∃ es c, W.heap[m]? = some (.map es c)) (hO : O m) (f : Fr (fun k => k = m) W W') : MidR w W' t km om O v E :=
  ⟨h.fr.trans f (fun i _ e => by rw [e]; exact hO), h.ends.turned hm f⟩
theorem node_cells {g i : Nat} {x : Ls} (h : NodeAt W g x i) : W.cell? ⟨g, 0, none⟩ = some (.int .i64 x.kind) ∧ W.cell? ⟨g, 1, none⟩ = some (.int .u64 (hi x.p : Nat)) ∧ W.cell? ⟨g, 2, none⟩ = some (.int .u64 (lo x.p : Nat)) ∧ W.cell? ⟨g, 3, none⟩ = some (.int .i64 x.n) ∧
    W.cell? ⟨g, 4, none⟩ = some (.int .i64 x.st) ∧ W.cell? ⟨g, 5, none⟩ = some (.string x.cl) ∧ W.cell? ⟨g, 6, none⟩ = some (.int .u32 (x.ia : Int)) ∧ W.cell? ⟨g, 7, none⟩ = some (.int .i64 x.un) ∧ W.cell? ⟨g, 8, none⟩ = some (.int .i64 (i : Int)) :=
  ⟨node_at h 0, node_at h 1, node_at h 2, node_at h 3, node_at h 4, node_at h 5, node_at h 6, node_at h 7, node_at h 8⟩
def RemPost (w : World) (t km om : Nat) (O : Nat → Prop) (E : List En) (x : Ls) (e : Ending) (w' : World) : Prop :=
  e = .returned (.tuple #[]) ∧ Fr O w w' ∧ ∃ v' E', TabE w' t km om (Gr O w w') v' E' ∧ (x :: E'.map (·.2)).Perm (E.map (·.2))
theorem rem_fin {x : En} {i : Nat} (hi : E[i]? = some x) (hO : O km ∧ O om) (hne : km ≠ om) (hg : GoodL (E.map (·.2))) (hlt : ∀ k, O k → k < w.heap.size) (F : Fr O w W) (hk : MapK W 80 km (DK E x.2)) (ho : MapK W 78 om (DO E x.2))
    {e : Ending} (hq : HRem W t km om O E i e W') : Fr O w W' ∧ ∃ v' E', TabE W' t km om (Gr O w W') v' E' ∧ (x.2 :: E'.map (·.2)).Perm (E.map (·.2)) := by
  obtain ⟨y, v', E', hy, _, hp, hs, hE, hperm, hh⟩ := hq
  rw [hi] at hy
  cases hy
  have F2 : Fr O w W' := F.trans hp.fr (fun _ _ e => e)
  have p3 := hperm.map (f := (·.2))
  refine ⟨F2, v', E', ⟨hE.wider (fun _ e => Or.inl e) (gr_lt hlt F2.size), (hk.keep hp.maps).iff (dk_rest hperm hg), (ho.keep hp.maps).iff (do_rest hperm hg), hh, ?_, ⟨Or.inl hO.1, Or.inl hO.2⟩, hne⟩, p3⟩
  exact (hg.perm p3.symm).sub (List.sublist_cons_self ..)
set_option maxRecDepth 100000 in
set_option maxHeartbeats 4000000 in
theorem remove_any (h : TabE w t km om O v E) {i g : Nat} {l : Ls} (hi : E[i]? = some (g, l)) : Calls Tryz.prog 50 #[Pt t, Pt g] w (RemPost w t km om O E l) := by
  have hx : l.ok := (h.good.ok l (List.mem_map.2 ⟨_, List.mem_of_getElem? hi, rfl⟩)).1
  have hil : i < E.length := (List.getElem?_eq_some_iff.1 hi).1
  have H := hide h
  have HX := hide hx
  have HI := hide hi
  have HIL := hide hil
  have M0 : Hid (MidR w w t km om O v E) := hide ⟨Fr.refl _ _, h.ends⟩
  obtain ⟨c0, c1, c2⟩ := h.ends.tabs
  obtain ⟨b0, b1, b2, b3, b4, b5, b6, b7, b8⟩ := node_cells (h.ends.node _ _ hi)
  have FIN := hide (fun W W' e F hk ho hq => rem_fin (w := w) (t := t) (W := W) (W' := W') (e := e) hi h.ownK h.ne h.good h.ends.lt F hk ho hq)
  have PK : Hid (∀ w1, Below w.heap.size w.drew w1 → ∃ w2, (Builtin.delete_ #[66, 80] 0 #[.map (some km), KOf l]).run Tryz.prog w1 = .ok (.tuple #[]) w2 ∧ Hid (MidR w w2 t km om O v E ∧ MapK w2 80 km (DK E l) ∧ MapK w2 78 om (RO E))) := hide (fun w1 hb1 => by
    have hb : Below w.heap.size w w1 := chain (below_drew w) hb1
    have K1 := H.out.keys.keep (KeepM.below hb)
    obtain ⟨w2, hrun, K2, F2⟩ := del_key K1 HX.out
    exact ⟨w2, hrun, (M0.out.step hb).turn K1.isMap H.out.ownK.1 F2, K2, (H.out.owns.keep (KeepM.below hb)).fr F2 (fun e => H.out.ne e.symm)⟩)
  clear h hx hi hil
  go_enter Tryz.func50, Tryz.ntmps50
  go_wp2_with fail
  go_region_with (go_at_call 46; refine (keyOf_any l _).mono ?_; rintro e w1 ⟨rfl, hb1⟩; have q0 := keep_cell (chain (below_drew w) hb1) c0; obtain ⟨w2, hrun, H2⟩ := PK.out _ hb1; clear hb1)
  all_goals
    clear q0 hrun c0 c1 c2 b0 b1 b2 b3 b4 b5 b6 b7 b8
    obtain ⟨d0, d1, d2⟩ := H2.out.1.ends.tabs
    obtain ⟨e0, e1, e2, e3, e4, e5, e6, e7, e8⟩ := node_cells (H2.out.1.ends.node _ _ HI.out)
    have PO : Hid (∀ w3, Below w2.heap.size w2.drew w3 → ∃ w4, (Builtin.delete_ #[67, 78] 0 #[.map (some om), OOf l]).run Tryz.prog w3 = .ok (.tuple #[]) w4 ∧ Hid (MidR w w4 t km om O v E ∧ MapK w4 80 km (DK E l) ∧ MapK w4 78 om (DO E l))) := hide (fun w3 hb3 => by
      have hb : Below w2.heap.size w2 w3 := chain (below_drew w2) hb3
      have O3 := H2.out.2.2.keep (KeepM.below hb)
      obtain ⟨w4, hrun, O4, F4⟩ := del_own O3 HX.out
      exact ⟨w4, hrun, (H2.out.1.step hb).turn O3.isMap H.out.ownK.2 F4, (H2.out.2.1.keep (KeepM.below hb)).fr F4 H.out.ne, O4⟩)
    go_wp2_with fail
    go_region_with (go_at_call 57; refine (ownerOf_any l _).mono ?_; rintro e w3 ⟨rfl, hb3⟩; have q1 := keep_cell (chain (below_drew w2) hb3) d1; obtain ⟨w4, hrun, H4⟩ := PO.out _ hb3; clear hb3)
  all_goals
    clear q1 hrun d0 d1 d2 e0 e1 e2 e3 e4 e5 e6 e7 e8
    obtain ⟨f0, f1, f2, f3, f4, f5, f6, f7, f8⟩ := node_cells (H4.out.1.ends.node _ _ HI.out)
    clear f0 f1 f2 f3 f4 f5 f6 f7
    have RM := hide (hremove_any (H4.out.1.ends.below (below_drew w4)) (i : Int) (by omega) (by have := HIL.out; omega) H.out.heap)
    rw [Int.toNat_natCast] at RM
    go_wp2_with fail
    go_region_with (go_at_call 68; refine RM.out.mono ?_; rintro e w5 hq; have HQ := hide hq; obtain ⟨y, v5, E5, hy, rfl, -⟩ := hq; clear hy)
    go_end0
    obtain ⟨a1, a2⟩ := FIN.out _ _ _ (H4.out.1.fr.andNo (Fr.drew w4)) (H4.out.2.1.keep (fun _ _ _ h => h)) (H4.out.2.2.keep (fun _ _ _ h => h)) HQ.out
    exact ⟨rfl, a1, a2⟩
end Go.Proofs.YtpldkgollhbolaaGreat
