/-
  The contract of a table's Apply: the changes of a list, all or none. Conditions: the list has at most 2000 changes, of their types, and lies in memory in no block of the table.
-/
import Derived.Test.YtpldkgollhbolaaGreatTbTk
namespace Go.Proofs.YtpldkgollhbolaaGreat
open Go.RowKit Go.Joins Go.Maps

variable {w w' W W' : World} {t km om : Nat} {O : Nat → Prop} {v : Value} {E : List En} {L : List Ls}
theorem TabE.notTg (h : TabE w t km om O v E) {b : Nat} {cur : Array Value} {fz : Nat × Nat} (hb : w.heap[b]? = some (.cells cur 41 fz)) : ¬ Tg t km om v E b := fun hk => by
  have ne : ∀ {c : Array Value} {ty : TypeId} {f : Nat × Nat}, w.heap[b]? = some (.cells c ty f) → ty ≠ 41 → False := fun h2 hn => by
    rw [hb] at h2
    simp at h2
    exact hn h2.2.1.symm
  rcases hk with rfl | rfl | rfl | hk | ⟨e, he, rfl⟩
  · exact ne h.ends.tab (by decide)
  · obtain ⟨es, c, hm⟩ := h.keys.isMap
    rw [hb] at hm; cases hm
  · obtain ⟨es, c, hm⟩ := h.owns.isMap
    rw [hb] at hm; cases hm
  · obtain ⟨g, cap, hv⟩ := h.ends.frm
    subst hv
    obtain ⟨cur, hg⟩ := h.ends.rowT
    obtain rfl : g = b := by simpa [Value.ownBlock] using hk
    exact ne hg (by decide)
  · obtain ⟨i, hi⟩ := List.mem_iff_getElem?.1 he
    exact ne (h.ends.node i e hi) (by decide)
theorem OwnC.type {base : Nat} {u : Value} {l : List Ch} (h : OwnC w base u l) : ∀ i, u.ownBlock = some i → base ≤ i ∧ ∃ cur, w.heap[i]? = some (.cells cur 41 (0, 0)) := fun i hi => by
  rcases h.2 with ⟨hn, _⟩ | ⟨g, cap, cur, rfl, h2, h3, _⟩
  · subst hn; simp [Value.ownBlock] at hi
  · obtain rfl : g = i := by simpa [Value.ownBlock] using hi
    exact ⟨h2, _, h3⟩
def ApplyPost (w : World) (t : Nat) (O : Nat → Prop) (r : Nat) (M : List Ls) (e : Ending) (w' : World) : Prop :=
  e = .returned (.int .i64 (r : Nat)) ∧ Fr O w w' ∧ IsTab w' t (Gr O w w') M
/-- a table in the middle of Apply: its blocks are its own or new -/
def Held (w W : World) (t : Nat) (O : Nat → Prop) (M : List Ls) : Prop := Fr O w W ∧ ∃ km om O2 v E, (∀ k, O2 k → O k ∨ w.heap.size ≤ k) ∧ TabE W t km om O2 v E ∧ SrtL M ∧ M.Perm (E.map (·.2))
theorem Held.below (h : Held w W t O L) (hb : Below W.heap.size W W') : Held w W' t O L := by
  obtain ⟨f, km, om, O2, v, E, h1, h2, h3⟩ := h
  exact ⟨f.andNo (Fr.ofBelow hb), km, om, O2, v, E, h1, h2.below hb, h3⟩
theorem Held.tab (h : Held w W t O L) (hlt : ∀ k, O k → k < w.heap.size) : IsTab W t (Gr O w W) L := by
  obtain ⟨f, km, om, O2, v, E, h1, h2, h3⟩ := h
  exact ⟨km, om, v, E, h2.wider (fun k hk => (h1 k hk).imp id (fun e => ⟨e, h2.ends.lt k hk⟩)) (gr_lt hlt f.size), h3⟩
theorem Held.start (h : IsTab w t O L) : Held w w t O L := by
  obtain ⟨km, om, v, E, h, h3⟩ := h
  exact ⟨Fr.refl _ _, km, om, O, v, E, fun k hk => Or.inl hk, h, h3⟩
/-- a list that lies outside the table stays -/
theorem Held.list {p : Option Go.Addr} {l : List Ch} (h : Held w W t O L) (hu : LstC p l w) (hn : ∀ b o, p = some ⟨b, o, none⟩ → ¬ O b) : LstC p l W := hu.fr h.1 hn
theorem Held.grown (h : Held w W t O L) {base : Nat} {u : Value} {l : List Ch} (ho : OwnC W base u l) (hb : w.heap.size ≤ base) (hg : W.grownBy W' u.ownBlock) : Held w W' t O L := by
  obtain ⟨f, km, om, O2, v, E, h1, h2, h3⟩ := h
  have F := Fr.grown hg
  refine ⟨f.trans F (fun i hi e => ?_), km, om, O2, v, E, h1, (h2.tight.fr F (fun k hk e => ?_)).wider h2.tgO (fun k hk => Nat.lt_of_lt_of_le (h2.ends.lt k hk) F.size), h3⟩
  · have := (ho.type i e.symm).1; omega
  · obtain ⟨_, cur, hc⟩ := ho.type k e.symm
    exact h2.notTg hc hk
/-- a change made within Apply -/
theorem Held.change (h : Held w W t O L) {c : Ch} (ho : c.l.ok) (hg : c.gone = false → GoodL (c.l :: restL L c.l)) {base : Nat} {u : Value} {l : List Ch} (hu : OwnC W base u l) :
    Calls Tryz.prog 24 #[Pt t, Cv c] W (fun e W' => e = .returned (Cv (backL L c)) ∧ Held w W' t O (chgL L c) ∧ OwnC W' base u l ∧ W.heap.size ≤ W'.heap.size) := by
  obtain ⟨f, km, om, O2, v, E, h1, h2, h3, h4⟩ := h
  refine (tchange_any h2.tight h3 h4 ho hg).mono ?_
  rintro e W' ⟨rfl, F, v3, E3, T3, S3, P3⟩
  refine ⟨rfl, ⟨f.trans F (fun i hi e => ?_), km, om, _, v3, E3, fun k hk => ?_, T3, S3, P3⟩, own_fr hu F (fun i hi => ?_), F.size⟩
  · rcases h1 i (h2.tgO i e) with e | e
    · exact e
    · omega
  · rcases hk with hk | hk
    · exact h1 k (h2.tgO k hk)
    · have := f.size; exact Or.inr (by omega)
  · obtain ⟨_, cur, hc⟩ := hu.type i hi
    exact h2.notTg hc
/-- what was made within Apply, taken back -/
theorem Held.back (h : Held w W t O L) {base cap : Nat} {q : Option Go.Addr} {l : List Ch} (hu : OwnC W base (.slice q l.length cap) l) (hl : l.length ≤ maxLen) (hb : okB L l.reverse) :
    Calls Tryz.prog 23 #[Pt t, .slice q l.length cap] W (fun e W' => e = .returned (.tuple #[]) ∧ Held w W' t O (applyG L l.reverse)) := by
  obtain ⟨f, km, om, O2, v, E, h1, h2, h3, h4⟩ := h
  refine (takeBack_any h2.tight h3 h4 hl (own_list hu) (fun b o e => ?_) hb).mono ?_
  · rcases hu.2 with ⟨e2, _⟩ | ⟨g, cap2, cur, e2, _, h6, _⟩
    · rw [e] at e2; cases e2
    · rw [e] at e2
      simp only [Value.slice.injEq, Option.some.injEq, Go.Addr.mk.injEq] at e2
      obtain rfl : b = g := e2.1.1
      exact ⟨lt_of_block h6, h2.notTg h6⟩
  · rintro e W' ⟨rfl, F, v3, E3, T3, S3, P3⟩
    refine ⟨rfl, f.trans F (fun i hi e => ?_), km, om, _, v3, E3, fun k hk => ?_, T3, S3, P3⟩
    · rcases h1 i (h2.tgO i e) with e | e
      · exact e
      · omega
    · rcases hk with hk | hk
      · exact h1 k (h2.tgO k hk)
      · have := f.size; exact Or.inr (by omega)
set_option maxRecDepth 100000 in
set_option maxHeartbeats 4000000 in
theorem apply_any (h : IsTab w t O L) {cs : List Ch} (ok : okL cs) (hl : cs.length ≤ 2000) {p : Option Go.Addr} {cap : Nat} (hu : LstC p cs w) (hn : ∀ b o, p = some ⟨b, o, none⟩ → cs ≠ [] → ¬ O b) :
    Calls Tryz.prog 7 #[Pt t, .slice p cs.length cap] w (ApplyPost w t O (applyE L cs) (applyL L cs)) := by
  have LT := hide h.lt
  have TL := hide h.tabL
  have H0 := hide (Held.start h)
  have HU := hide hu
  have HN := hide hn
  have OK := hide ok
  obtain ⟨i0, hi, hz0, hz1, hz2⟩ := info_parts infoC
  clear h hu hn ok
  go_enter Tryz.func7, Tryz.ntmps7
  go_wp2_with fail
  go_loopw [5, 13] (fun u i wr => ∃ (a b : List Ch) (q : Option Go.Addr) (c : Nat), Hid (cs = a ++ b) ∧ a.length ≤ cs.length ∧ u = .slice q a.length c ∧ i = .int .i64 (a.length : Nat) ∧ Hid (applyE L a = 0) ∧ Hid (OwnC wr w.heap.size (.slice q a.length c) (backs L a)) ∧ Hid (Held w wr t O (applyG L a))) (fun _ i => fun _ => cs.length - (intOf i).toNat)
  case atStart => exact ⟨[], cs, none, 0, hide rfl, Nat.zero_le _, rfl, rfl, hide rfl, hide (World.ownsRow_nil _ _ _ _), H0⟩
  case round =>
    clear H0
    obtain ⟨a, b, q, c, HS, hal, rfl, rfl, HE, HO, HH⟩ := hrel
    have WB := HH.out.1.size
    have TM := hide (apply_tab a TL.out (fun x hx => OK.out x (by rw [HS.out]; exact List.mem_append_left _ hx)) HE.out)
    cases b with
    | nil =>
      have ha : a = cs := by have := HS.out; simpa using this.symm
      subst ha
      have hge : ¬ (a.length : Int) < (a.length : Int) := by omega
      have E0 := hide (show applyL L a = applyG L a by unfold applyL; rw [if_pos HE.out])
      have END : Hid (ApplyPost w t O (applyE L a) (applyL L a) (.returned (.int .i64 0)) wr) := hide ⟨by rw [HE.out]; rfl, HH.out.1, by rw [E0.out]; exact HH.out.tab LT.out⟩
      go_wp2
      go_ret
      exact END.out
    | cons x b =>
      have hlt : a.length < cs.length := by rw [HS.out]; simp
      have hlt2 : (a.length : Int) < (cs.length : Int) := by omega
      have hx : cs[a.length]? = some x := by rw [HS.out, List.getElem?_append_right (Nat.le_refl _)]; simp
      have okx := OK.out x (List.mem_of_getElem? hx)
      have OKX := hide okx
      obtain ⟨pb, po, rfl, x0, x1, x2, x3, x4, x5, x6, x7, x8⟩ := (HH.out.list HU.out (fun b o e => HN.out b o e (by rw [HS.out]; simp))) a.length x hx
      have H1 := hide (HH.out.below (below_alloc wr (.cells (changeC x) 41)))
      have CK := check_any (H1.out.tab LT.out) okx
      have O1 := hide (World.ownsRow.alloc HO.out (.cells (changeC x) 41))
      have BX := hide (heap_alloc_new wr (.cells (changeC x) 41))
      by_cases he : errL (applyG L a) x = 0
      · rw [he] at CK
        have CK2 := hide (show Calls Tryz.prog 22 #[Pt t, Cv x] (wr.alloc (.cells (changeC x) 41)) (Gives (.int .i64 0) (wr.alloc (.cells (changeC x) 41))) from CK)
        have GM := hide (chg_may TM.out okx he)
        have AE := hide (show applyE L (a ++ [x]) = 0 by rw [applyE_snoc L a x HE.out, he])
        have BS := hide (backs_snoc L a x)
        clear CK hx okx he
        go_wp2_with fail
        refine CK2.out.mono ?_
        rintro e w2 ⟨rfl, hb2⟩
        have H2 := hide (H1.out.below hb2)
        have O2 := hide (own_frC O1.out (Fr.ofBelow hb2) (fun _ _ e => e))
        have B2 := (Fr.ofBelow hb2).keep BX.out (fun e => e)
        obtain ⟨y0, y1, y2, y3, y4, y5, y6, y7, y8, yf⟩ := cells9 B2
        have CH := hide (H2.out.change OKX.out GM.out O2.out)
        clear x0 x1 x2 x3 x4 x5 x6 x7 x8 B2 hb2 CK2 O1 H1 HO HH WB
        go_wp2_with fail
        refine CH.out.mono ?_
        generalize backL (applyG L a) x = y at *
        rintro e w3 ⟨rfl, H3, O3, z3⟩
        have H4 := hide (H3.below (below_alloc w3 (.cells (changeC y) 41)))
        have O4 := World.ownsRow.alloc O3 (.cells (changeC y) 41)
        have B4 : w.heap.size ≤ (w3.alloc (.cells (changeC y) 41)).heap.size := by have := H3.1.size; simp; omega
        have HO4 := hide O4
        clear y0 y1 y2 y3 y4 y5 y6 y7 y8 yf CH H2 O2 H3 O3 z3
        go_wp2_with (at_builtin; refine wpList_append_lies _ rfl (.tmp 26) (.tmp 30) 36 rfl w.heap.size 41 i0 (.agg #[.bool false, .int .i64 0, .int .u64 0, .int .u64 0, .int .i64 0, .int .i64 0, .string ⟨#[]⟩, .int .u32 0, .int .i64 0]) 9 80 Tryz.underlying36 hi hz0 hz1 hz2 rfl (by decide) (.slice q a.length c) a.length (cellsC (backs L a)) rfl (by have := O4; rw [backs_len] at this; exact this) ⟨w3.heap.size, 0, none⟩ 1 1 (wdC y) rfl rfl (wd_at w3 y 41) (wd_cell y) (by omega) (by unfold maxLen; omega) (by omega) B4 _ rfl ?_; intro g2 cap2 w5 O5 G5 _ _)
        have H5 := hide (H4.out.grown HO4.out (Nat.le_refl _) G5)
        have O6 : Hid (OwnC w5 w.heap.size (.slice (some ⟨g2, 0, none⟩) (a ++ [x]).length cap2) (backs L (a ++ [x]))) := hide (by
          unfold OwnC
          rw [BS.out, cellsC_snoc, List.length_append, List.length_append, backs_len]; exact O5)
        clear O4 O5 G5 H4 HO4
        go_wp2
        go_roundw
        case rel =>
          refine ⟨a ++ [x], b, some ⟨g2, 0, none⟩, cap2, hide (by rw [HS.out]; simp), by rw [List.length_append]; exact hlt, by rw [List.length_append]; rfl, by rw [List.length_append]; go_num, AE, O6, hide (by rw [applyG_append]; exact H5.out)⟩
        case measure => simp [intOf]; omega
      · have hne : ¬ ((errL (applyG L a) x : Nat) : Int) = 0 := by omega
        have TKB := hide (take_back a TL.out (fun x hx => OK.out x (by rw [HS.out]; exact List.mem_append_left _ hx)) HE.out)
        have AE := hide (show applyE L cs = errL (applyG L a) x by rw [HS.out]; exact applyE_stop L a x b HE.out he)
        have AL := hide (show applyL L cs = L by unfold applyL; rw [AE.out, if_neg he])
        generalize errL (applyG L a) x = n at *
        have CK2 := hide CK
        clear CK hx okx he
        go_wp2_with fail
        refine CK2.out.mono ?_
        rintro e w2 ⟨rfl, hb2⟩
        have H2 := hide (H1.out.below hb2)
        have O2 := hide (own_frC O1.out (Fr.ofBelow hb2) (fun _ _ e => e))
        have BK : Hid (Calls Tryz.prog 23 #[Pt t, .slice q a.length c] w2 (fun e W' => e = .returned (.tuple #[]) ∧ Held w W' t O L)) := hide (by
          have o2 : OwnC w2 w.heap.size (.slice q (backs L a).length c) (backs L a) := by rw [backs_len]; exact O2.out
          have := H2.out.back o2 (by rw [backs_len]; unfold maxLen; omega) TKB.out.1
          rw [backs_len, TKB.out.2] at this
          exact this)
        clear x0 x1 x2 x3 x4 x5 x6 x7 x8 hb2 CK2 O1 H1 HO HH H2 O2 BX
        go_wp2_with fail
        refine BK.out.mono ?_
        rintro e w3 ⟨rfl, H3⟩
        have END : Hid (ApplyPost w t O (applyE L cs) (applyL L cs) (.returned (.int .i64 (n : Nat))) w3) := hide ⟨by rw [AE.out], H3.1, by rw [AL.out]; exact H3.tab LT.out⟩
        clear H3
        go_wp2
        go_ret
        exact END.out
end Go.Proofs.YtpldkgollhbolaaGreat
