/-
  The contract of a table's change, one way of four. Conditions: the change's lease is one of its type; one that is put is sound and in nobody's way.
  The contract of a table's change, one way of four. Conditions: the change's lease is one of its type; one that is put is sound and in nobody's way.
-/
import Derived.Test.YtpldkgollhbolaaGreatT4
namespace Go.Proofs.YtpldkgollhbolaaGreat
open Go.RowKit Go.Joins Go.Maps

variable {w w' W W' : World} {t km om : Nat} {O : Nat → Prop} {v : Value} {E : List En} {L : List Ls}
set_option maxRecDepth 100000 in
set_option maxHeartbeats 4000000 in
theorem chg_no_gone (h : TabE w t km om O v E) (hs : SrtL L) (hp : L.Perm (E.map (·.2))) {l : Ls} (hl : l.ok) (hk : ∀ e ∈ E, keyB e.2 l = false) :
    Calls Tryz.prog 24 #[Pt t, Cv ⟨true, l⟩] w (ChgPost w t km om O (chgL L ⟨true, l⟩) (Cv ⟨true, ⟨l.kind, l.p, l.n, 0, ⟨#[]⟩, 0, 0⟩⟩)) := by
  have H := hide h
  have HL := hide hl
  have HS := hide hs
  have HP := hide hp
  have HK := hide hk
  have M0 := hide (MidC.start w O ⟨true, l⟩)
  have B0 : Hid (Below w.heap.size w (((w.alloc (.cells (changeC ⟨true, l⟩) 41)).alloc (.cells zeroC 41)).alloc (.cells (backC ⟨true, l⟩) 41))) := hide (chain (chain (below_alloc _ _) (below_alloc _ _)) (below_alloc _ _))
  have Z0 : w.heap.size + 1 + 1 < (((w.alloc (.cells (changeC ⟨true, l⟩) 41)).alloc (.cells zeroC 41)).alloc (.cells (backC ⟨true, l⟩) 41)).heap.size := by simp
  clear h hl hs hp hk
  go_enter Tryz.func24, Tryz.ntmps24
  go_wp2_with fail
  generalize hV : ((w.alloc (.cells (changeC ⟨true, l⟩) 41)).alloc (.cells zeroC 41)).alloc (.cells (backC ⟨true, l⟩) 41) = V at *
  clear hV
  have H0 := hide (H.out.below B0.out)
  obtain ⟨c0, c1, c2⟩ := H0.out.ends.tabs
  obtain ⟨a0, a1, a2, a3, a4, a5, a6, a7, a8, af⟩ := cells9 M0.out.box
  obtain ⟨r0, r1, r2, r3, r4, r5, r6, r7, r8, rf⟩ := cells9 M0.out.res
  obtain ⟨k0, k1, k2, k3, k4, k5, k6, k7, k8, kf⟩ := cells9 M0.out.back
  have PK : Hid (∀ w1, Below V.heap.size V.drew w1 → (Instr.lookup 66 (.map (some km)) (KOf l) true).run Tryz.prog w1 = .ok (.tuple #[.pointer none, .bool false]) w1 ∧ Hid (TabE w1 t km om O v E ∧ MidC w w1 O ⟨true, l⟩ (backC ⟨true, l⟩) ∧ V.heap.size ≤ w1.heap.size)) := hide (fun w1 hb1 => by
    have hb : Below V.heap.size V w1 := chain (below_drew V) hb1
    have h1 := H0.out.below hb
    exact ⟨look_no h1 HL.out HK.out, h1, M0.out.step hb, hb.size⟩)
  go_region_with (go_at_call 46; refine (keyOf_any l _).mono ?_; rintro e w1 ⟨rfl, hb1⟩; have q0 := keep_cell (chain (below_drew V) hb1) c0; obtain ⟨hrun, H1⟩ := PK.out _ hb1; clear hb1)
  all_goals
    clear q0 hrun c0 c1 c2 PK a0 a1 a2 a3 a4 a5 a6 a7 a8 af r0 r1 r2 r3 r4 r5 r6 r7 r8 rf k0 k1 k2 k3 k4 k5 k6 k7 k8 kf
    obtain ⟨a0, a1, a2, a3, a4, a5, a6, a7, a8, af⟩ := cells9 (hide H1.out.2.1).out.box
    obtain ⟨r0, r1, r2, r3, r4, r5, r6, r7, r8, rf⟩ := cells9 (hide H1.out.2.1).out.res
    obtain ⟨k0, k1, k2, k3, k4, k5, k6, k7, k8, kf⟩ := cells9 (hide H1.out.2.1).out.back
    have Z1 : w.heap.size + 1 + 1 < w1.heap.size := Nat.lt_of_lt_of_le Z0 H1.out.2.2
    have LT := hide H.out.ends.lt
    have RN : Hid (restL L l = L) := hide (restL_none (by
      unfold thereL; rw [List.any_eq_false]
      intro z hz
      obtain ⟨e, he, rfl⟩ := List.mem_map.1 (HP.out.mem_iff.1 hz)
      rw [HK.out e he]; simp))
    have END := hide (chg_end (L := restL L l) H1.out.2.1 H1.out.1 (by rw [RN.out]; exact HS.out) (by rw [RN.out]; exact HP.out) LT.out (fun k hk => Or.inl hk) (r := Cv ⟨true, ⟨l.kind, l.p, l.n, 0, ⟨#[]⟩, 0, 0⟩⟩) rfl)
    go_wp2
    exact bodyPost_ret (v := Cv ⟨true, ⟨l.kind, l.p, l.n, 0, ⟨#[]⟩, 0, 0⟩⟩) (by simp [results, Tryz.results24, go_sem, *]) rfl END.out
end Go.Proofs.YtpldkgollhbolaaGreat
namespace Go.Proofs.YtpldkgollhbolaaGreat
open Go.RowKit Go.Joins Go.Maps

variable {w w' W W' : World} {t km om : Nat} {O : Nat → Prop} {v : Value} {E : List En} {L : List Ls}
set_option maxRecDepth 100000 in
set_option maxHeartbeats 4000000 in
theorem chg_no_put (h : TabE w t km om O v E) (hs : SrtL L) (hp : L.Perm (E.map (·.2))) {l : Ls} (hl : l.ok) (hk : ∀ e ∈ E, keyB e.2 l = false) (hgd : GoodL (l :: (restL L l))) :
    Calls Tryz.prog 24 #[Pt t, Cv ⟨false, l⟩] w (ChgPost w t km om O (chgL L ⟨false, l⟩) (Cv ⟨true, ⟨l.kind, l.p, l.n, 0, ⟨#[]⟩, 0, 0⟩⟩)) := by
  have H := hide h
  have HL := hide hl
  have HS := hide hs
  have HP := hide hp
  have HK := hide hk
  have HG := hide hgd
  have M0 := hide (MidC.start w O ⟨false, l⟩)
  have B0 : Hid (Below w.heap.size w (((w.alloc (.cells (changeC ⟨false, l⟩) 41)).alloc (.cells zeroC 41)).alloc (.cells (backC ⟨false, l⟩) 41))) := hide (chain (chain (below_alloc _ _) (below_alloc _ _)) (below_alloc _ _))
  have Z0 : w.heap.size + 1 + 1 < (((w.alloc (.cells (changeC ⟨false, l⟩) 41)).alloc (.cells zeroC 41)).alloc (.cells (backC ⟨false, l⟩) 41)).heap.size := by simp
  clear h hl hs hp hk hgd
  go_enter Tryz.func24, Tryz.ntmps24
  go_wp2_with fail
  generalize hV : ((w.alloc (.cells (changeC ⟨false, l⟩) 41)).alloc (.cells zeroC 41)).alloc (.cells (backC ⟨false, l⟩) 41) = V at *
  clear hV
  have H0 := hide (H.out.below B0.out)
  obtain ⟨c0, c1, c2⟩ := H0.out.ends.tabs
  obtain ⟨a0, a1, a2, a3, a4, a5, a6, a7, a8, af⟩ := cells9 M0.out.box
  obtain ⟨r0, r1, r2, r3, r4, r5, r6, r7, r8, rf⟩ := cells9 M0.out.res
  obtain ⟨k0, k1, k2, k3, k4, k5, k6, k7, k8, kf⟩ := cells9 M0.out.back
  have PK : Hid (∀ w1, Below V.heap.size V.drew w1 → (Instr.lookup 66 (.map (some km)) (KOf l) true).run Tryz.prog w1 = .ok (.tuple #[.pointer none, .bool false]) w1 ∧ Hid (TabE w1 t km om O v E ∧ MidC w w1 O ⟨false, l⟩ (backC ⟨false, l⟩) ∧ V.heap.size ≤ w1.heap.size)) := hide (fun w1 hb1 => by
    have hb : Below V.heap.size V w1 := chain (below_drew V) hb1
    have h1 := H0.out.below hb
    exact ⟨look_no h1 HL.out HK.out, h1, M0.out.step hb, hb.size⟩)
  go_region_with (go_at_call 46; refine (keyOf_any l _).mono ?_; rintro e w1 ⟨rfl, hb1⟩; have q0 := keep_cell (chain (below_drew V) hb1) c0; obtain ⟨hrun, H1⟩ := PK.out _ hb1; clear hb1)
  all_goals
    clear q0 hrun c0 c1 c2 PK a0 a1 a2 a3 a4 a5 a6 a7 a8 af r0 r1 r2 r3 r4 r5 r6 r7 r8 rf k0 k1 k2 k3 k4 k5 k6 k7 k8 kf
    obtain ⟨a0, a1, a2, a3, a4, a5, a6, a7, a8, af⟩ := cells9 (hide H1.out.2.1).out.box
    obtain ⟨r0, r1, r2, r3, r4, r5, r6, r7, r8, rf⟩ := cells9 (hide H1.out.2.1).out.res
    obtain ⟨k0, k1, k2, k3, k4, k5, k6, k7, k8, kf⟩ := cells9 (hide H1.out.2.1).out.back
    have Z1 : w.heap.size + 1 + 1 < w1.heap.size := Nat.lt_of_lt_of_le Z0 H1.out.2.2
    have LT := hide H.out.ends.lt
    have RN : Hid (restL L l = L) := hide (restL_none (by
      unfold thereL; rw [List.any_eq_false]
      intro z hz
      obtain ⟨e, he, rfl⟩ := List.mem_map.1 (HP.out.mem_iff.1 hz)
      rw [HK.out e he]; simp))
    have AD := hide (add_any H1.out.1 l HL.out (HG.out.perm (by rw [RN.out]; exact HP.out.cons l)))
    go_wp2_with fail
    refine AD.out.mono ?_
    rintro e w4 ⟨rfl, F4, v4, E4, T4, P4⟩
    have HF4 := hide F4
    have HT4 := hide T4
    have HP4 := hide P4
    have M4 := hide (H1.out.2.1.act LT.out F4 (fun _ e => Or.inl e))
    clear F4 T4 P4 a0 a1 a2 a3 a4 a5 a6 a7 a8 af r0 r1 r2 r3 r4 r5 r6 r7 r8 rf k0 k1 k2 k3 k4 k5 k6 k7 k8 kf
    obtain ⟨a0, a1, a2, a3, a4, a5, a6, a7, a8, af⟩ := cells9 M4.out.box
    obtain ⟨r0, r1, r2, r3, r4, r5, r6, r7, r8, rf⟩ := cells9 M4.out.res
    obtain ⟨k0, k1, k2, k3, k4, k5, k6, k7, k8, kf⟩ := cells9 M4.out.back
    have END := hide (chg_end (L := putL l (restL L l)) M4.out HT4.out (putL_srt (HS.out.sublist (restL_sub L l)) (fun z hz => (mem_restL.1 hz).2)) (((putL_perm l _).trans (by rw [RN.out]; exact HP.out.cons l)).trans HP4.out.symm) LT.out (fun k hk => gr_wide hk Z1) (r := Cv ⟨true, ⟨l.kind, l.p, l.n, 0, ⟨#[]⟩, 0, 0⟩⟩) rfl)
    go_wp2
    exact bodyPost_ret (v := Cv ⟨true, ⟨l.kind, l.p, l.n, 0, ⟨#[]⟩, 0, 0⟩⟩) (by simp [results, Tryz.results24, go_sem, *]) rfl END.out
end Go.Proofs.YtpldkgollhbolaaGreat
