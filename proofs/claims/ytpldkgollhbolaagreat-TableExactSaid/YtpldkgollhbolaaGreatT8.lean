/-
  The contracts of a table's roomy and New: a table without leases, in new memory. Condition: the room is for at most 2000.
  The contracts of a table's Next and Copy. No condition beyond those in each theorem's own statement.
-/
import Derived.Test.YtpldkgollhbolaaGreatTbX
import Derived.Laws.MakeOwn
namespace Go.Proofs.YtpldkgollhbolaaGreat
open Go.RowKit Go.Joins Go.Maps

variable {w w' V W W' : World} {t km om : Nat} {O : Nat → Prop} {v : Value} {E : List En} {L : List Ls}
/-- the blocks made since w -/
def New (w w' : World) (k : Nat) : Prop := w.heap.size ≤ k ∧ k < w'.heap.size
theorem MapK.empty {m : Nat} (kt : TypeId) (h : W.heap[m]? = some (.map #[] 0)) : MapK W kt m (fun _ _ => False) := by
  obtain ⟨es, clock, hb, F, hs, hD⟩ := World.ownsMap_made (H := Unit) W Tryz.prog kt ptrElem
  have e := heap_alloc_new W (.map #[] 0)
  rw [e] at hb
  simp only [Option.some.injEq, Obj.map.injEq] at hb
  obtain ⟨rfl, rfl⟩ := hb
  exact ⟨.map [], 0, ⟨#[], 0, h, F, hs, hD⟩, fun key kl hk => ⟨fun h => by simp [Maps.has] at h, fun g h => h.elim⟩⟩
theorem new_tab {g cap : Nat} {cur : Array Value} (ht : W.heap[t]? = some (.cells #[.map (some km), .map (some om), .slice (some ⟨g, 0, none⟩) 0 cap] 71 (0, 0))) (hk : W.heap[km]? = some (.map #[] 0)) (ho : W.heap[om]? = some (.map #[] 0))
    (hg : W.heap[g]? = some (.cells cur 72 (0, 0))) (hc : cur.size = cap) (hm : cap ≤ maxLen) (hne : km ≠ om) (h1 : w.heap.size ≤ t) (h2 : w.heap.size ≤ km) (h3 : w.heap.size ≤ om) (h4 : w.heap.size ≤ g) : IsTab W t (New w W) [] := by
  refine ⟨km, om, _, [], ⟨⟨ht, ⟨by simp [rowE], .inr ⟨g, cap, cur, rfl, Nat.zero_le _, hg, Nat.zero_le _, hm, by omega, by simp [rowE]⟩⟩, by simp, ⟨⟨h1, lt_of_block ht⟩, fun k hk2 => by cases hk2; exact ⟨h4, lt_of_block hg⟩, by simp⟩, fun k h => h.2, by simp, ⟨g, cap, rfl⟩⟩,
    (MapK.empty _ hk).iff (fun key g => ⟨fun h => h.elim, fun ⟨x, hx, _⟩ => by simp at hx⟩), (MapK.empty _ ho).iff (fun key g => ⟨fun h => h.elim, fun ⟨x, hx, _⟩ => by simp at hx⟩), fun k _ hk => by simp at hk, .nil, ⟨⟨h2, lt_of_block hk⟩, ⟨h3, lt_of_block ho⟩⟩, hne⟩, .nil, .nil⟩
def MadePost (w : World) (L : List Ls) (e : Ending) (w' : World) : Prop := ∃ t, e = .returned (Pt t) ∧ Below w.heap.size w w' ∧ IsTab w' t (New w w') L
theorem run_mm {T k e : TypeId} (ht : Tryz.prog.underlying T = some (.map k e)) (n : Nat) (h : n ≤ 2000) (W : World) : (Instr.makeMap T (some (.int .i64 (n : Int)))).run Tryz.prog W = .ok (.map (some W.heap.size)) (W.alloc (.map #[] 0)) := by
  have : ¬ ((n : Int) < 0) := by omega
  simp [Instr.makeMap, asInt, asIntOf, go_sem, run_underlying ht]
theorem at4_0 (w : World) (a b c d : Obj) : ((((w.alloc a).alloc b).alloc c).alloc d).drew.heap[w.heap.size]? = some a :=
  (Fr.ofBelow (chain (chain (chain (below_alloc _ b) (below_alloc _ c)) (below_alloc _ d)) (below_drew _))).keep (heap_alloc_new w a) (fun e => e)
theorem at4_1 (w : World) (a b c d : Obj) : ((((w.alloc a).alloc b).alloc c).alloc d).drew.heap[w.heap.size + 1]? = some b :=
  (Fr.ofBelow (chain (chain (below_alloc _ c) (below_alloc _ d)) (below_drew _))).keep (alloc_at (W := w.alloc a) b (by simp)) (fun e => e)
theorem at4_2 (w : World) (a b c d : Obj) : ((((w.alloc a).alloc b).alloc c).alloc d).drew.heap[w.heap.size + 1 + 1]? = some c :=
  (Fr.ofBelow (chain (below_alloc _ d) (below_drew _))).keep (alloc_at (W := (w.alloc a).alloc b) c (by simp)) (fun e => e)
theorem at4_3 (w : World) (a b c d : Obj) : ((((w.alloc a).alloc b).alloc c).alloc d).drew.heap[w.heap.size + 1 + 1 + 1]? = some d :=
  (Fr.ofBelow (below_drew _)).keep (alloc_at (W := ((w.alloc a).alloc b).alloc c) d (by simp)) (fun e => e)
theorem below4 (w : World) (a b c d : Obj) : Below w.heap.size w ((((w.alloc a).alloc b).alloc c).alloc d).drew := chain (chain (chain (chain (below_alloc _ a) (below_alloc _ b)) (below_alloc _ c)) (below_alloc _ d)) (below_drew _)
theorem run_ms (n : Nat) (h : n ≤ 2000) (W : World) : (Instr.makeSlice 69 (.int .i64 0) (.int .i64 (n : Int))).run Tryz.prog W = .ok (.slice (some ⟨W.heap.size, 0, none⟩) 0 n) (W.alloc (.cells (madeCells #[.pointer none] n) 72)) := by
  obtain ⟨i, hi, hz0, hz1, hz2⟩ := info_parts infoN
  have := run_make (P := Tryz.prog) W 69 72 i (.pointer none) Tryz.underlying69 hi hz0 .i64 .i64 0 (n : Int) (by omega) (by omega) (by rw [hz2]; omega) (by omega)
  rw [hz1, Int.toNat_natCast] at this
  simpa [Value.cells] using this
set_option maxRecDepth 100000 in
set_option maxHeartbeats 4000000 in
theorem roomy_any (n : Nat) (hn : n ≤ 2000) (w : World) : Calls Tryz.prog 21 #[.int .i64 (n : Int)] w (MadePost w []) := by
  have m1 := fun W => run_mm Tryz.underlying66 n hn W
  have m2 := fun W => run_mm Tryz.underlying67 n hn W
  have m3 := fun W => run_ms n hn W
  go_enter Tryz.func21, Tryz.ntmps21
  go_wp2_with fail
  go_region
  all_goals
    go_wp2
    go_ret
    refine ⟨_, rfl, below4 _ _ _ _ _, ?_⟩
    refine new_tab (cap := n) (cur := madeCells #[.pointer none] n) (at4_3 _ _ _ _ _) ?_ ?_ ?_ (size_madeCells _ _) (by unfold maxLen; omega) ?_ ?_ ?_ ?_ ?_
    all_goals first | exact at4_0 _ _ _ _ _ | exact at4_1 _ _ _ _ _ | exact at4_2 _ _ _ _ _ | omega
theorem new_any (w : World) : Calls Tryz.prog 5 #[] w (MadePost w []) := by
  have R := hide (roomy_any 0 (by omega) w)
  go_enter Tryz.func5, Tryz.ntmps5
  go_wp2_with fail
  refine R.out.mono ?_
  rintro e w2 ⟨t, rfl, hb, ht⟩
  have HT := hide ht
  clear ht
  go_wp2
  go_ret
  exact ⟨t, rfl, hb, HT.out⟩
end Go.Proofs.YtpldkgollhbolaaGreat
namespace Go.Proofs.YtpldkgollhbolaaGreat
open Go.RowKit Go.Joins Go.Maps

variable {w w' V W W' : World} {t km om : Nat} {O : Nat → Prop} {v : Value} {E : List En} {L : List Ls}
/-- the least end; 0: none -/
def nextL : List Ls → Int
  | [] => 0
  | x :: r => r.foldl (fun m y => if y.un < m then y.un else m) x.un
theorem fold_least : ∀ (r : List Ls) (m : Int), (∀ x ∈ r, r.foldl (fun m y => if y.un < m then y.un else m) m ≤ x.un) ∧ r.foldl (fun m y => if y.un < m then y.un else m) m ≤ m ∧ (r.foldl (fun m y => if y.un < m then y.un else m) m = m ∨ ∃ x ∈ r, x.un = r.foldl (fun m y => if y.un < m then y.un else m) m)
  | [], m => ⟨by simp, by simp, Or.inl rfl⟩
  | y :: r, m => by
    rw [List.foldl_cons]
    obtain ⟨a, b, c⟩ := fold_least r (if y.un < m then y.un else m)
    by_cases h : y.un < m
    · rw [if_pos h] at *
      refine ⟨fun x hx => ?_, by omega, ?_⟩
      · rcases List.mem_cons.1 hx with rfl | hx
        · exact b
        · exact a x hx
      · rcases c with c | ⟨x, hx, e⟩
        · exact Or.inr ⟨y, List.mem_cons_self, c.symm⟩
        · exact Or.inr ⟨x, List.mem_cons_of_mem _ hx, e⟩
    · rw [if_neg h] at *
      refine ⟨fun x hx => ?_, b, ?_⟩
      · rcases List.mem_cons.1 hx with rfl | hx
        · omega
        · exact a x hx
      · rcases c with c | ⟨x, hx, e⟩
        · exact Or.inl c
        · exact Or.inr ⟨x, List.mem_cons_of_mem _ hx, e⟩
theorem next_least (hL : L ≠ []) : (∃ x ∈ L, x.un = nextL L) ∧ ∀ x ∈ L, nextL L ≤ x.un := by
  cases L with
  | nil => exact (hL rfl).elim
  | cons y r =>
    obtain ⟨a, b, c⟩ := fold_least r y.un
    refine ⟨?_, fun x hx => ?_⟩
    · rcases c with c | ⟨x, hx, e⟩
      · exact ⟨y, List.mem_cons_self, c.symm⟩
      · exact ⟨x, List.mem_cons_of_mem _ hx, e⟩
    · rcases List.mem_cons.1 hx with rfl | hx
      · exact b
      · exact a x hx
theorem next_eq {m : Int} {x : Ls} (hx : x ∈ L) (hm : x.un = m) (h : ∀ y ∈ L, m ≤ y.un) : nextL L = m := by
  obtain ⟨⟨y, hy, e⟩, h2⟩ := next_least (L := L) (List.ne_nil_of_mem hx)
  have a := h y hy
  have b := h2 x hx
  omega
theorem next_none (h : IsTab w t O []) : Calls Tryz.prog 15 #[Pt t] w (Same (.tuple #[.int .i64 0, .bool false]) w) := by
  have S := hide (size_any h)
  clear h
  go_enter Tryz.func15, Tryz.ntmps15
  go_wp2_with fail
  refine S.out.mono ?_
  rintro e w2 ⟨rfl, rfl⟩
  go_wp2
  go_ret2
  exact ⟨rfl, rfl⟩
set_option maxRecDepth 100000 in
theorem next_some (h : IsTab w t O L) (hL : L ≠ []) : Calls Tryz.prog 15 #[Pt t] w (Same (.tuple #[.int .i64 (nextL L), .bool true]) w) := by
  have S := hide (size_any h)
  obtain ⟨km, om, v, E, h, hs, hp⟩ := h
  have hlen : L.length = E.length := by rw [hp.length_eq, List.length_map]
  have hpos : 0 < E.length := by rw [← hlen]; exact List.length_pos_iff.2 hL
  obtain ⟨x, hx⟩ : ∃ x, E[0]? = some x := ⟨_, List.getElem?_eq_getElem hpos⟩
  have hn : nextL L = x.2.un := by
    refine next_eq (hp.mem_iff.2 (List.mem_map.2 ⟨x, List.mem_of_getElem? hx, rfl⟩)) rfl (fun y hy => ?_)
    obtain ⟨z, hz, rfl⟩ := List.mem_map.1 (hp.mem_iff.1 hy)
    obtain ⟨k, hk⟩ := List.mem_iff_getElem?.1 hz
    have := heap_least h.heap k (List.getElem?_eq_some_iff.1 hk).1
    rw [unE_some hx, unE_some hk] at this
    exact this
  rw [hn]
  obtain ⟨c0, c1, c2⟩ := h.ends.tabs
  obtain ⟨g, cap, rfl⟩ := h.ends.frm
  have d0 := h.ends.at hx
  obtain ⟨b0, b1, b2, b3, b4, b5, b6, b7, b8⟩ := node_cells (h.ends.node _ _ hx)
  rw [hlen] at S
  have hz : ((E.length : Int) == 0) = false := by rw [beq_eq_false_iff_ne]; omega
  have hz2 : (0 : Int) < (E.length : Int) := by omega
  clear h hs hp hlen hn hL hx
  go_enter Tryz.func15, Tryz.ntmps15
  go_wp2_with fail
  refine S.out.mono ?_
  rintro e w2 ⟨rfl, rfl⟩
  go_wp2
  go_ret2
  exact ⟨rfl, rfl⟩
theorem new_gr (h : w.heap.size ≤ W.heap.size) (h2 : W.heap.size ≤ W'.heap.size) : ∀ k, Gr (New w W) W W' k → New w W' k := fun k hk => by
  rcases hk with hk | hk
  · exact ⟨hk.1, Nat.lt_of_lt_of_le hk.2 h2⟩
  · exact ⟨Nat.le_trans h hk.1, hk.2⟩
theorem new_lt : ∀ k, New w W k → k < W.heap.size := fun _ h => h.2
theorem below_new (h : Below w.heap.size w W) (f : Fr (New w W) W W') : Below w.heap.size w W' := h.trans (f.below h.size (fun _ hk => hk.1))
set_option maxRecDepth 100000 in
set_option maxHeartbeats 2000000 in
theorem copy_any (h : IsTab w t O L) : Calls Tryz.prog 13 #[Pt t] w (MadePost w L) := by
  have S := hide (size_any h)
  have HS := hide h.tabL
  obtain ⟨km, om, v, E, h, hs, hp⟩ := h
  have hlen : L.length = E.length := by rw [hp.length_eq, List.length_map]
  rw [hlen] at S
  have hE : E.length ≤ 2000 := h.ends.len
  have RM := hide (roomy_any E.length hE w)
  have H := hide h
  have HP := hide hp
  obtain ⟨g, cap, rfl⟩ := h.ends.frm
  obtain ⟨c0, c1, c2⟩ := h.ends.tabs
  have HE := hide hE
  have ht := lt_of_block h.ends.tab
  clear h hs hp hlen hE
  go_enter Tryz.func13, Tryz.ntmps13
  go_wp2_with fail
  refine S.out.mono ?_
  rintro e w1 ⟨rfl, rfl⟩
  go_wp2_with fail
  refine RM.out.mono ?_
  rintro e w2 ⟨t2, rfl, hb2, hT2⟩
  have B2 := hide hb2
  have T2 := hide hT2
  obtain ⟨hc2, hf2⟩ := bcell hb2
  clear hb2 hT2
  go_wp2_with fail
  clear hc2 hf2 c0 c1 c2
  go_loopw [16] (fun i wr => ∃ (k : Nat) (E2 : List En) (km2 om2 : Nat) (v2 : Value), k ≤ E.length ∧ i = .int .i64 (k : Nat) ∧ Hid (Below w.heap.size w wr) ∧ Hid (TabE wr t2 km2 om2 (New w wr) v2 E2) ∧ Hid ((E2.map (·.2)).Perm ((E.take k).map (·.2)))) (fun i _ => E.length - (intOf i).toNat)
  case atStart =>
    obtain ⟨km2, om2, v2, E2, h2, hs2, hp2⟩ := T2.out
    exact ⟨0, E2, km2, om2, v2, Nat.zero_le _, rfl, B2, hide h2, hide (by simpa using hp2.symm)⟩
  case round =>
    obtain ⟨k, E2, km2, om2, v2, hk, rfl, HB, HT, HP2⟩ := hrel
    by_cases hlt : k < E.length
    · obtain ⟨x, hx⟩ : ∃ x, E[k]? = some x := ⟨_, List.getElem?_eq_getElem hlt⟩
      have HEr := hide (H.out.ends.below HB.out)
      have d0 := HEr.out.at hx
      obtain ⟨b0, b1, b2, b3, b4, b5, b6, b7, b8⟩ := node_cells (HEr.out.node _ _ hx)
      have htk : E.take (k + 1) = E.take k ++ [x] := by rw [List.take_add_one, hx]; rfl
      have hg : GoodL (x.2 :: E2.map (·.2)) := by
        have g1 := H.out.good.sub ((List.take_sublist (k + 1) E).map (·.2))
        rw [htk, List.map_append] at g1
        refine g1.perm ?_
        exact (List.perm_append_comm).trans ((HP2.out.symm).cons x.2)
      have hok := (H.out.good.ok x.2 (List.mem_map.2 ⟨x, List.mem_of_getElem? hx, rfl⟩)).1
      have AD := hide (add_any HT.out x.2 hok hg)
      have HTK := hide htk
      have hlt2 : (k : Int) < (E.length : Int) := by omega
      have hk0 : (0 : Int) ≤ (k : Int) := by omega
      have hk9 : (k : Int) ≤ 2000 := by have := HE.out; omega
      clear hx htk hg hok
      go_wp2_with fail
      refine AD.out.mono ?_
      rintro e w3 ⟨rfl, F3, v3, E3, T3, P3⟩
      have HF3 := hide F3
      have HT3 := hide T3
      have HP3 := hide P3
      clear F3 T3 P3 d0 b0 b1 b2 b3 b4 b5 b6 b7 b8
      go_wp2
      go_roundw
      case rel =>
        refine ⟨k + 1, E3, km2, om2, v3, hlt, by go_num, hide (below_new HB.out HF3.out), hide (HT3.out.wider (new_gr HB.out.size HF3.out.size) new_lt), hide ?_⟩
        rw [HTK.out, List.map_append]
        exact HP3.out.trans ((HP2.out.cons x.2).trans (List.perm_append_singleton x.2 _).symm)
      case measure => simp [intOf]; omega
    · have hke : k = E.length := by omega
      have hp2 : L.Perm (E2.map (·.2)) := by
        have := HP2.out
        rw [hke, List.take_length] at this
        exact HP.out.trans this.symm
      have HFIN := hide (IsTab.mk HT.out HS.out.srt hp2)
      have hlt2 : ¬ (k : Int) < (E.length : Int) := by omega
      clear hke hp2
      go_wp2
      go_ret
      exact ⟨t2, rfl, HB.out, HFIN.out⟩
end Go.Proofs.YtpldkgollhbolaaGreat
