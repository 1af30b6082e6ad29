/-
  The heap of a table's leases in memory: its methods Push and Pop. No condition beyond those in each theorem's own statement.
-/
import Derived.Test.YtpldkgollhbolaaTbS
import Derived.Deep.AppendLies
namespace Go.Proofs.Ytpldkgollhbolaa
open Go.RowKit Go.Joins Go.Maps

variable {w w' : World} {t km om : Nat} {O : Nat → Prop} {v : Value} {E : List En}
theorem infoN : (Try.prog.info? 67).map (fun i => (i.zero, i.size, i.bytes)) = some (some (.pointer none), 1, 8) := by kernel_rfl
theorem neRow (h : Ends w t km om O v E) {g0 i0 : Nat} {x : Ls} (hn : NodeAt w g0 x i0) : g0 ≠ t ∧ ∀ k, v.ownBlock = some k → g0 ≠ k ∧ t ≠ k := by
  refine ⟨fun e => ?_, fun k hk => ?_⟩
  · unfold NodeAt at hn; rw [e, h.tab] at hn; simp [tabC, nodeC] at hn
  · rcases h.row.2 with ⟨rfl, _⟩ | ⟨g, cap, cur, rfl, _, hg, _⟩
    · cases hk
    · cases hk
      refine ⟨fun e => ?_, fun e => ?_⟩
      · unfold NodeAt at hn; rw [e, hg] at hn; simp at hn
      · have := h.tab; rw [e, hg] at this; simp at this
theorem node_fr {S : Nat → Prop} {a b : World} {g i : Nat} {x : Ls} (h : NodeAt a g x i) (k : Fr S a b) (hn : ¬ S g) : NodeAt b g x i := k.keep h hn
theorem push_ends (h : Ends w t km om O v E) {g0 i0 : Nat} {x : Ls} (hn : NodeAt w g0 x i0) (hO : O g0) (hE : ∀ e ∈ E, e.1 ≠ g0) (hl : E.length + 1 ≤ 2000)
    {w3 : World} {g2 cap2 : Nat} (hr : w3.ownsRow 0 67 1 (.slice (some ⟨g2, 0, none⟩) (E.length + 1) cap2) (E.length + 1) (rowE E ++ [Pt g0]))
    (hg : ((w.setCell ⟨g0, 8, none⟩ (.int .i64 (E.length : Int))).alloc (.cells #[Pt g0] 67)).grownBy w3 v.ownBlock) (hor : v.ownBlock = some g2 ∨ g2 = w.heap.size + 1) (hlt : g2 < w3.heap.size) :
    Ends (w3.setCell ⟨t, 2, none⟩ (.slice (some ⟨g2, 0, none⟩) (E.length + 1) cap2)) t km om (Gr O w w3) (.slice (some ⟨g2, 0, none⟩) (E.length + 1) cap2) (E ++ [(g0, x)]) ∧ Hp O w (w3.setCell ⟨t, 2, none⟩ (.slice (some ⟨g2, 0, none⟩) (E.length + 1) cap2)) := by
  obtain ⟨nt, nr⟩ := neRow h hn
  have F1 : Fr (fun k => k = g0) w (w.setCell ⟨g0, 8, none⟩ (.int .i64 (E.length : Int))) := Fr.set w ⟨g0, 8, none⟩ _
  have F2 := F1.andNo (Fr.alloc (w.setCell ⟨g0, 8, none⟩ (.int .i64 (E.length : Int))) (.cells #[Pt g0] 67))
  have F3 : Fr (fun k => k = g0 ∨ some k = v.ownBlock) w w3 := (F2.mono (fun _ _ e => Or.inl e)).trans (Fr.grown hg) (fun _ _ e => Or.inr e)
  have sz := F3.size
  have htab : w3.heap[t]? = some (.cells (tabC km om v) 73 (0, 0)) := F3.keep h.tab (fun e => by
    rcases e with e | e
    · exact nt e.symm
    · exact (nr t e.symm).2 rfl)
  have ht2 : g2 ≠ t := by
    intro e
    rcases hor with e2 | e2
    · exact (nr g2 e2).2 e.symm
    · have := lt_of_block h.tab; omega
  have og2 : Gr O w w3 g2 := by
    rcases hor with e | e
    · exact Or.inl (h.own.2.1 _ e)
    · exact Or.inr ⟨by omega, hlt⟩
  have hN0 : NodeAt (w.setCell ⟨g0, 8, none⟩ (.int .i64 (E.length : Int))) g0 x E.length := node_set hn E.length
  have hN1 : NodeAt w3 g0 x E.length := node_fr (node_fr hN0 (Fr.alloc _ _) (fun e => e)) (Fr.grown hg) (fun e => (nr g0 e.symm).1 rfl)
  refine ⟨⟨?_, ?_, ?_, ?_, ?_, ?_, ?_⟩, ?_⟩
  · rw [set_block htab]; rfl
  · rw [List.length_append, show rowE (E ++ [(g0, x)]) = rowE E ++ [Pt g0] by simp [rowE]]
    exact own_fr hr (Fr.set w3 ⟨t, 2, none⟩ _) (fun k hk e => by cases hk; exact ht2 e)
  · intro i e he
    by_cases hi : i < E.length
    · rw [List.getElem?_append_left hi] at he
      have hne := hE e (List.mem_of_getElem? he)
      have hn1 := node_fr (h.node i e he) F3 (fun e1 => by
        rcases e1 with e1 | e1
        · exact hne e1
        · exact (neRow h (h.node i e he)).2 _ e1.symm |>.1 rfl)
      exact node_ne hn1 _ _ (neRow h (h.node i e he)).1
    · have hi2 : i = E.length := by
        have := (List.getElem?_eq_some_iff.1 he).1; simp at this; omega
      subst hi2
      rw [List.getElem?_append_right (Nat.le_refl _)] at he
      simp at he
      subst he
      exact node_ne hN1 _ _ nt
  · refine ⟨Or.inl h.own.1, fun k hk => by cases hk; exact og2, fun e he => ?_⟩
    rcases List.mem_append.1 he with he | he
    · exact Or.inl (h.own.2.2 e he)
    · rw [List.mem_singleton.1 he]; exact Or.inl hO
  · intro k hk
    have := gr_lt h.lt sz k hk
    simpa using this
  · simp; omega
  · exact ⟨g2, cap2, by simp⟩
  · refine ⟨(F3.mono (fun i _ e => ?_)).trans (Fr.set w3 ⟨t, 2, none⟩ _) (fun i _ e => by rw [show i = t from e]; exact h.own.1), ?_⟩
    · rcases e with e | e
      · rw [e]; exact hO
      · exact h.own.2.1 i e.symm
    · intro k es c hk
      have n1 : w3.heap[k]? = some (.map es c) := F3.keep hk (fun e => by
        rcases e with e | e
        · unfold NodeAt at hn; rw [e, hn] at hk; simp at hk
        · rcases h.row.2 with ⟨rfl, _⟩ | ⟨g, cap, cur, rfl, _, hg', _⟩
          · cases e
          · cases e; rw [hg'] at hk; simp at hk)
      exact KeepM.set w3 _ _ k es c n1
theorem gr_set (O : Nat → Prop) (w w3 : World) (a : Go.Addr) (u : Value) : Gr O w (w3.setCell a u) = Gr O w w3 := by funext k; simp [Gr]
/-- a call on the heap that may make memory -/
def Psh (w : World) (t km om : Nat) (O : Nat → Prop) (E' : List En) (r : Value) (e : Ending) (w' : World) : Prop := e = .returned r ∧ Hp O w w' ∧ ∃ v', Ends w' t km om (Gr O w w') v' E'
theorem bs_ptr (w : World) (g : Nat) : (Instr.buildSlice 71 1 #[(0, Pt g)]).run Try.prog w = .ok (.slice (some ⟨w.heap.size, 0, none⟩) 1 1) (w.alloc (.cells #[Pt g] 67)) := by kernel_rfl
theorem alloc_at {W : World} {n : Nat} (o : Obj) (h : W.heap.size = n) : (W.alloc o).heap[n]? = some o := by rw [← h]; exact heap_alloc_new W o
set_option maxRecDepth 100000 in
set_option maxHeartbeats 1000000 in
theorem push_any (h : Ends w t km om O v E) {g0 i0 : Nat} {x : Ls} (hn : NodeAt w g0 x i0) (hO : O g0) (hE : ∀ e ∈ E, e.1 ≠ g0) (hl : E.length + 1 ≤ 2000) :
    Calls Try.prog 107 #[.pointer (some ⟨t, 2, none⟩), .iface 67 (Pt g0)] w (Psh w t km om O (E ++ [(g0, x)]) (.tuple #[])) := by
  have c1 := h.cell
  have f1 := h.free
  have c2 : w.cell? ⟨g0, 8, none⟩ = some (.int .i64 (i0 : Int)) := by rw [node_at hn]; rfl
  have f2 := node_free hn 8
  obtain ⟨nt, nr⟩ := neRow h hn
  have PE := hide (fun w3 g2 cap2 hr hg hor hlt => push_ends (w3 := w3) (g2 := g2) (cap2 := cap2) h hn hO hE hl hr hg hor hlt)
  have R1 := hide (own_fr h.row (Fr.set w ⟨g0, 8, none⟩ (.int .i64 (E.length : Int))) (fun k hk e => (nr k hk).1 e.symm))
  have T1 := hide (Fr.keep (Fr.set w ⟨g0, 8, none⟩ (.int .i64 (E.length : Int))) h.tab (fun e => nt e.symm))
  have NR := hide (fun k hk => (nr k hk).2)
  have hlt := lt_of_block h.tab
  obtain ⟨i0', hi, hz0, hz1, hz2⟩ := info_parts infoN
  have ta : ∀ w, (Instr.typeAssert (.iface 67 (Pt g0)) 20 67 false).run Try.prog w = .ok (Pt g0) w := fun _ => by kernel_rfl
  have bs := fun W => bs_ptr W g0
  have HL := hide hl
  have E2 : Hid (E.length + 1 ≤ 2000 → (E.length + 1 ≤ maxLen ∧ (E.length + 1) * 8 ≤ 140737488355328)) := hide (fun h => by unfold maxLen; omega)
  obtain ⟨g, cap, rfl⟩ := h.frm
  clear h hn hE nt nr hl
  go_enter Try.func107, Try.ntmps107
  go_wp2_with (at_builtin; refine wpList_append_lies _ rfl _ _ 71 rfl 0 67 i0' (.pointer none) 1 8 Try.underlying71 hi hz0 hz1 hz2 rfl (by decide) (.slice (some ⟨g, 0, none⟩) E.length cap) E.length _ rfl (own_fr R1.out (Fr.alloc _ _) (fun _ _ e => e)) ⟨w.heap.size, 0, none⟩ 1 1 [Pt g0] rfl rfl (fun j u hu => World.news_of_block (alloc_at (W := w.setCell ⟨g0, 8, none⟩ (.int .i64 (E.length : Int))) _ (World.size_setCell _ _ _)) j u hu) (fun u hu => by simp at hu; subst hu; rfl) (by decide) (E2.out HL.out).1 (E2.out HL.out).2 (Nat.zero_le _) _ rfl ?_; intro g2 cap2 w3 O3 G3 L3 L4; have T3 := (Fr.grown G3).keep ((Fr.alloc _ _).keep T1.out (fun e => e)) (fun e => NR.out t e.symm rfl); have c3 : w3.cell? ⟨t, 2, none⟩ = some (.slice (some ⟨g, 0, none⟩) E.length cap) := (by rw [cell_at T3]; rfl); have f3 : w3.frozen? ⟨t, 2, none⟩ = false := free_at T3 2; have HT3 := hide T3; clear T3)
  go_end0
  have P := PE.out w3 g2 cap2 O3 G3 (L3.imp id (fun e => e.trans (by simp))) L4
  exact ⟨rfl, P.2, _, by rw [gr_set]; exact P.1⟩

theorem pop_ends {g cap : Nat} {g0 : Nat} {x : Ls} (h : Ends w t km om O (.slice (some ⟨g, 0, none⟩) (E.length + 1) cap) (E ++ [(g0, x)])) :
    Ends ((w.setCell ⟨g, E.length, none⟩ (.pointer none)).setCell ⟨t, 2, none⟩ (.slice (some ⟨g, 0, none⟩) E.length cap)) t km om O (.slice (some ⟨g, 0, none⟩) E.length cap) E ∧
    Hp O w ((w.setCell ⟨g, E.length, none⟩ (.pointer none)).setCell ⟨t, 2, none⟩ (.slice (some ⟨g, 0, none⟩) E.length cap)) := by
  have hlen : (E ++ [(g0, x)]).length = E.length + 1 := by simp
  have h' : Ends w t km om O (.slice (some ⟨g, 0, none⟩) (E ++ [(g0, x)]).length cap) (E ++ [(g0, x)]) := by rw [hlen]; exact h
  obtain ⟨gt, gn⟩ := h'.neG
  have hat : ∀ {i : Nat} {e : En}, E[i]? = some e → (E ++ [(g0, x)])[i]? = some e := fun {i e} hi => by
    rw [List.getElem?_append_left (List.getElem?_eq_some_iff.1 hi).1]; exact hi
  refine ⟨⟨?_, ?_, ?_, ?_, ?_, ?_, ⟨_, _, rfl⟩⟩, ?_⟩
  · have := set_ne w E.length (.pointer none) gt.symm
    rw [set_block (this.trans h.tab)]; rfl
  · have r1 := (h'.row.stored E.length (.pointer none)).1
    have e : (rowE (E ++ [(g0, x)])).set E.length (.pointer none) = rowE E ++ [.pointer none] := by
      unfold rowE
      rw [List.map_append, List.set_append_right _ _ (by simp)]
      simp
    rw [e, hlen] at r1
    have r2 := ownsRow_pop (by simp [rowE]) r1
    exact own_fr r2 (Fr.set _ ⟨t, 2, none⟩ _) (fun k hk e => by cases hk; exact gt e)
  · intro i e hi
    have a := hat hi
    exact node_ne (node_ne (h.node i e a) _ _ (gn a)) _ _ (h'.neT a)
  · exact ⟨h.own.1, fun k hk => h.own.2.1 k hk, fun e he => h.own.2.2 e (List.mem_append_left _ he)⟩
  · intro k hk; have := h.lt k hk; simpa using this
  · have := h.len; rw [hlen] at this; omega
  · have a1 := Hp.set (O := O) w ⟨g, E.length, none⟩ (.pointer none) (h.own.2.1 g rfl)
    have a2 := Hp.set (O := O) (w.setCell ⟨g, E.length, none⟩ (.pointer none)) ⟨t, 2, none⟩ (.slice (some ⟨g, 0, none⟩) E.length cap) h.own.1
    exact a1.trans ⟨a2.fr.mono (fun _ _ e => Or.inl e), a2.maps⟩
/-- a call on the heap that takes one out -/
def Pop (w : World) (t km om : Nat) (O : Nat → Prop) (E' : List En) (r : Value) (e : Ending) (w' : World) : Prop := e = .returned r ∧ Hp O w w' ∧ w'.heap.size = w.heap.size ∧ ∃ v', Ends w' t km om O v' E'
set_option maxRecDepth 100000 in
set_option maxHeartbeats 1000000 in
theorem pop_any {g0 : Nat} {x : Ls} (h : Ends w t km om O v (E ++ [(g0, x)])) :
    Calls Try.prog 106 #[.pointer (some ⟨t, 2, none⟩)] w (Pop w t km om O E (.iface 67 (Pt g0))) := by
  have c1 := h.cell
  have f1 := h.free
  obtain ⟨g, cap, rfl⟩ := h.frm
  have hlen : (E ++ [(g0, x)]).length = E.length + 1 := by simp
  have hx : (E ++ [(g0, x)])[E.length]? = some (g0, x) := by simp
  have c2 := h.at hx
  have f2 := h.rowFree E.length
  have gt := h.neG.1
  have hcap : E.length + 1 ≤ cap := by
    rcases h.row.2 with ⟨h', _⟩ | ⟨g', cap', cur, h', hb, hg, hnc, hcm, hcs, htake⟩
    · simp at h'
    · simp only [Value.slice.injEq, Option.some.injEq, Go.Addr.mk.injEq, and_true, true_and] at h'
      obtain ⟨_, rfl⟩ := h'
      rw [hlen] at hnc; exact hnc
  have hl : E.length + 1 ≤ 2000 := by have := h.len; rw [hlen] at this; exact this
  rw [hlen] at c1 h
  have PE := hide (pop_ends h)
  clear h hlen hx
  generalize E.length = m at *
  have d1 : (w.setCell ⟨g, m, none⟩ (.pointer none)).cell? ⟨t, 2, none⟩ = some (.slice (some ⟨g, 0, none⟩) (m + 1) cap) := by
    rw [World.cell?_setCell_other _ _ _ _ (fun e => gt (congrArg Go.Addr.block e))]; exact c1
  have d2 : (w.setCell ⟨g, m, none⟩ (.pointer none)).frozen? ⟨t, 2, none⟩ = false := by
    rw [World.frozen?_setCell]; exact f1
  have hm : (m : Int) ≤ cap := by omega
  have hm2 : (m : Int) ≤ 2000 := by omega
  have HC := hide hcap
  have HL := hide hl
  clear hcap hl
  go_enter Try.func106, Try.ntmps106
  go_wp2
  go_ret
  exact ⟨rfl, PE.out.2, by simp, _, PE.out.1⟩
end Go.Proofs.Ytpldkgollhbolaa
