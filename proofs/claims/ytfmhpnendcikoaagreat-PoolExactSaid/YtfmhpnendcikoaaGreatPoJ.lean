/-
  pool's join: a row of ranges of the call's own is sorted where it stands, and the set of its addresses is put together. Conditions: the words are words of 64 bits; each is a range; at most 1000 ranges.
-/
import Derived.Test.YtfmhpnendcikoaaGreatPoS
import Derived.Test.YtfmhpnendcikoaaGreatSpanB
import Derived.Test.YtfmhpnendcikoaaGreatTbRg
import Derived.BigQuiet
namespace Go.Proofs.YtfmhpnendcikoaaGreat
open Go.RowKit Go.Joins

theorem own_at4 {W : World} {base g c n k : Nat} {l : List Rg} {m : Rg} (h : W.ownsRow base 36 4 (.slice (some ⟨g, 0, none⟩) n c) n (cellsR l)) (hm : l[k]? = some m) (hn : n = l.length) :
    W.cell? ⟨g, k * 4, none⟩ = some (.int .u64 (hi m.1 : Nat)) ∧ W.cell? ⟨g, k * 4 + 1, none⟩ = some (.int .u64 (lo m.1 : Nat)) ∧ W.cell? ⟨g, k * 4 + 2, none⟩ = some (.int .u64 (hi m.2 : Nat)) ∧ W.cell? ⟨g, k * 4 + 3, none⟩ = some (.int .u64 (lo m.2 : Nat)) := by
  have hl : k < l.length := (List.getElem?_eq_some_iff.1 hm).1
  subst hn
  exact ⟨(h.cellAt (k * 4) (by omega)).trans (cellsR_at hm 0 (by omega)), (h.cellAt (k * 4 + 1) (by omega)).trans (cellsR_at hm 1 (by omega)), (h.cellAt (k * 4 + 2) (by omega)).trans (cellsR_at hm 2 (by omega)), (h.cellAt (k * 4 + 3) (by omega)).trans (cellsR_at hm 3 (by omega))⟩
theorem cellsR_setL {l : List Rg} {j y : Nat} {z : Rg} (h : l[j]? = some z) : ((cellsR l).set (j * 4 + 2) (.int .u64 (hi y : Nat))).set (j * 4 + 3) (.int .u64 (lo y : Nat)) = cellsR (l.set j (z.1, y)) := by
  induction l generalizing j with
  | nil => simp at h
  | cons x r ih =>
    cases j with
    | zero =>
      simp at h
      subst h
      rw [List.set_cons_zero, cellsR_cons, cellsR_cons]
      rfl
    | succ j =>
      have h' : r[j]? = some z := by simpa using h
      rw [show (j + 1) * 4 + 2 = (j * 4 + 2) + 4 by omega, show (j + 1) * 4 + 3 = (j * 4 + 3) + 4 by omega, List.set_cons_succ, cellsR_cons, cellsR_cons, ← ih h']
      rfl
theorem own_setL {W : World} {base g c j : Nat} {l : List Rg} {z : Rg} (h : Own W base (.slice (some ⟨g, 0, none⟩) l.length c) l) (hz : l[j]? = some z) (q : Nat) :
    Own ((W.setCell ⟨g, j * 4 + 2, none⟩ (.int .u64 (hi q : Nat))).setCell ⟨g, j * 4 + 3, none⟩ (.int .u64 (lo q : Nat))) base (.slice (some ⟨g, 0, none⟩) l.length c) (l.set j (z.1, q)) := by
  have h1 := (h.stored (j * 4 + 2) (.int .u64 (hi q : Nat))).1
  have h2 := (h1.stored (j * 4 + 3) (.int .u64 (lo q : Nat))).1
  rw [cellsR_setL hz] at h2
  unfold Own
  rw [List.length_set]
  exact h2
theorem jStep_fit {s : List Rg} {r : Rg} (fs : FitL s) (fr : FitR r) : FitL (jStep s r) := by
  unfold jStep
  split
  · exact fit_one fr
  · rename_i m hm
    have fm := fs m (List.mem_of_getLast? hm)
    split
    · intro x hx
      rcases List.mem_append.1 hx with h | h
      · exact fs x h
      · rw [List.mem_singleton.1 h]; exact fr
    · split
      · intro x hx
        rcases List.mem_append.1 hx with h | h
        · exact fs x ((List.dropLast_sublist s).subset h)
        · rw [List.mem_singleton.1 h]; exact ⟨fm.1, fr.2⟩
      · exact fs
theorem HR.drew1 {w : World} {base X : Nat} {v : Value} {pre : List Rg} {r : Rg} {W : World} (h : HR w base X v pre r W) : HR w base X v pre r { W with drawn := W.drawn + 1 } := h.step (Below.refl _ _).drew
def JoinGives (base : Nat) (l : List Rg) (w : World) (e : Ending) (w' : World) : Prop := ∃ v, e = .returned v ∧ Below base w w' ∧ Own w' w.heap.size v l
set_option maxRecDepth 100000 in
set_option maxHeartbeats 4000000 in
theorem join_any {v : Value} {l : List Rg} {base : Nat} (ok : ∀ x ∈ l, x.1 ≤ x.2) (fl : FitL l) (hl : l.length ≤ 1000) (w : World) (hO : Own w base v l) (hb : base ≤ w.heap.size) :
    Calls Tryz.prog 19 #[v] w (JoinGives base (jnL l) w) := by
  have SO := hide (sort_anyR hO hb (by omega))
  have OK := hide ok
  have SM := hide (fun (m r : Rg) (fm : FitR m) (fr : FitR r) W v (H : Lst v [m, r] W) => sound_any (v := v) (l := [m, r]) (fun x hx => by rcases List.mem_cons.1 hx with h | h; exact h ▸ fm; exact (List.mem_singleton.1 h) ▸ fr) (by simp) W H)
  obtain ⟨p, c, rfl⟩ := lst_len (own_lst hO)
  clear hO ok
  go_enter Tryz.func19, Tryz.ntmps19
  go_wp2_with fail
  refine SO.out.mono ?_
  rintro e w4 ⟨rfl, R, hp, hr, hL, hb4⟩
  have JN := hide (jn_sorted hp hr OK.out fl)
  have fR : FitL R := fun x hx => fl x (hp.mem_iff.1 hx)
  have kR := hide (fun x (hx : x ∈ R) => OK.out x (hp.mem_iff.1 hx))
  have nR := hp.length_eq
  have HL := hide hL
  clear hp hr hL SO OK
  go_wp2_with fail
  go_loopw [3, 11] (fun s3 i wr => ∃ (k1 : Nat) (s : List Rg), k1 ≤ R.length ∧ i = .int .i64 (k1 : Nat) ∧ Below w4.heap.size w4 wr ∧ Own wr w4.heap.size s3 s ∧ Hid (s = jnS (R.take k1)) ∧ s.length ≤ k1 ∧ Hid (FitL s)) (fun _ i _ => R.length - (intOf i).toNat)
  case atStart => exact ⟨0, [], Nat.zero_le _, rfl, Below.refl _ _, own_nil0 _ _, hide rfl, Nat.le_refl _, hide fit_nil⟩
  case round =>
    obtain ⟨k1, s, hk, rfl, HB, HO, HS, LS, FS1⟩ := hrel
    by_cases hlt : k1 < R.length
    · obtain ⟨r, hr⟩ := get_some hlt
      have fr := fit_at fR hr
      have JT := hide (jn_take hr)
      obtain ⟨b, o, e, hrow, a0, a1, a2, a3⟩ := lst_at (HL.out.step HB) hr
      subst e
      have bx := hrow.1
      clear hr hrow
      have H1 : HR w4 w4.heap.size wr.heap.size _ s r (wr.alloc (.cells #[.int .u64 (hi r.1 : Nat), .int .u64 (lo r.1 : Nat), .int .u64 (hi r.2 : Nat), .int .u64 (lo r.2 : Nat)] 36)) :=
        ⟨HB.alloc HB.size _, four_new wr r _, own_keep HO (below_alloc _ _), fun e => by have := (HO.lt _ e).2; omega, HB.size⟩
      by_cases hs : s = []
      · subst hs
        obtain ⟨ps, cs, rfl⟩ := lst_len (own_lst HO)
        have JE := hide (jStep_nil r)
        have JN1 : IntKind.i64.wrap (0 - 1) = -1 := by decide
        clear HO HB
        go_wp2_with fail
        refine wp_region_rel (HR w4 w4.heap.size wr.heap.size (.slice ps 0 cs) [] r) [some 18, some 19, some 20, some 21, some 22, some 23, some 24, some 25, some 26, some 27, some 28] [fun yy _ => yy = .int .i64 (-1), fun yy _ => yy = .bool true, fun yy _ => yy = .bool true, fun yy _ => yy = undef, fun yy _ => yy = undef, fun yy _ => yy = undef, fun yy _ => yy = undef, fun yy _ => yy = undef, fun yy _ => yy = undef, fun yy _ => yy = undef, fun yy _ => yy = .bool true] 50 (by kernel_rfl) (by kernel_rfl) rfl rfl (H1.step (Below.refl _ _).drew) ?_ ?_
        · refine ⟨⟨fun _ _ _ h _ => h, fun a' W K hC hd hf hK => ?_⟩, ⟨fun _ _ _ h _ => h, fun a' W K hC hd hf hK => ?_⟩, ⟨fun _ _ _ h _ => h, fun a' W K hC hd hf hK => ?_⟩, ⟨fun _ _ _ h _ => h, fun a' W K hC hd hf hK => ?_⟩, ⟨fun _ _ _ h _ => h, fun a' W K hC hd hf hK => ?_⟩, ⟨fun _ _ _ h _ => h, fun a' W K hC hd hf hK => ?_⟩, ⟨fun _ _ _ h _ => h, fun a' W K hC hd hf hK => ?_⟩, ⟨fun _ _ _ h _ => h, fun a' W K hC hd hf hK => ?_⟩, ⟨fun _ _ _ h _ => h, fun a' W K hC hd hf hK => ?_⟩, ⟨fun _ _ _ h _ => h, fun a' W K hC hd hf hK => ?_⟩, ⟨fun _ _ _ h _ => h, fun a' W K hC hd hf hK => ?_⟩, trivial⟩
          · refine op_plain rfl ?_
            have f6 : a'.tmps[6]?.getD undef = .int .i64 (-1) := (hf.out 6 (by kernel_rfl)).trans (by simp)
            go_simp
            exact hK.out _ _ hC (Below.refl _ _) rfl
          · refine op_plain rfl ?_
            have d18 : a'.tmps[18]?.getD undef = .int .i64 (-1) := hd.out 0 18 (by kernel_rfl) rfl
            go_simp
            exact hK.out _ _ hC (Below.refl _ _) rfl
          · refine op_plain rfl ?_
            have d19 : a'.tmps[19]?.getD undef = .bool true := hd.out 1 19 (by kernel_rfl) rfl
            go_simp
            exact hK.out _ _ hC (Below.refl _ _) rfl
          · have gd : a'.tmps[20]?.getD undef = .bool true := hd.out 2 20 (by kernel_rfl) rfl
            refine op_no rfl (by kernel_rfl) gd rfl ?_
            exact hK.out _ _ hC (Below.refl _ _) rfl
          · have gd : a'.tmps[20]?.getD undef = .bool true := hd.out 2 20 (by kernel_rfl) rfl
            refine op_no rfl (by kernel_rfl) gd rfl ?_
            exact hK.out _ _ hC (Below.refl _ _) rfl
          · have gd : a'.tmps[20]?.getD undef = .bool true := hd.out 2 20 (by kernel_rfl) rfl
            refine op_no rfl (by kernel_rfl) gd rfl ?_
            exact hK.out _ _ hC (Below.refl _ _) rfl
          · have gd : a'.tmps[20]?.getD undef = .bool true := hd.out 2 20 (by kernel_rfl) rfl
            refine op_no rfl (by kernel_rfl) gd rfl ?_
            exact hK.out _ _ hC (Below.refl _ _) rfl
          · have gd : a'.tmps[20]?.getD undef = .bool true := hd.out 2 20 (by kernel_rfl) rfl
            refine op_no rfl (by kernel_rfl) gd rfl ?_
            exact hK.out _ _ hC (Below.refl _ _) rfl
          · have gd : a'.tmps[20]?.getD undef = .bool true := hd.out 2 20 (by kernel_rfl) rfl
            refine op_no rfl (by kernel_rfl) gd rfl ?_
            exact hK.out _ _ hC (Below.refl _ _) rfl
          · have gd : a'.tmps[20]?.getD undef = .bool true := hd.out 2 20 (by kernel_rfl) rfl
            refine op_no rfl (by kernel_rfl) gd rfl ?_
            exact hK.out _ _ hC (Below.refl _ _) rfl
          · refine op_plain rfl ?_
            have d20 : a'.tmps[20]?.getD undef = .bool true := hd.out 2 20 (by kernel_rfl) rfl
            have d27 : a'.tmps[27]?.getD undef = undef := hd.out 9 27 (by kernel_rfl) rfl
            go_simp
            exact hK.out _ _ hC (Below.refl _ _) rfl
        · intro vs W5 HC hR
          have q0 : vs 0 = .int .i64 (-1) := hR.out 0 (by decide)
          have q1 : vs 1 = .bool true := hR.out 1 (by decide)
          have q2 : vs 2 = .bool true := hR.out 2 (by decide)
          have q3 : vs 3 = undef := hR.out 3 (by decide)
          have q4 : vs 4 = undef := hR.out 4 (by decide)
          have q5 : vs 5 = undef := hR.out 5 (by decide)
          have q6 : vs 6 = undef := hR.out 6 (by decide)
          have q7 : vs 7 = undef := hR.out 7 (by decide)
          have q8 : vs 8 = undef := hR.out 8 (by decide)
          have q9 : vs 9 = undef := hR.out 9 (by decide)
          have q10 : vs 10 = .bool true := hR.out 10 (by decide)
          simp only [fillF, Act.put, List.setIfInBounds_toArray, List.set_cons_zero, List.set_cons_succ, Nat.reduceAdd, q0, q1, q2, q3, q4, q5, q6, q7, q8, q9, q10]
          clear hR q0 q1 q2 q3 q4 q5 q6 q7 q8 q9 q10
          have O7 := own_keep HC.2.2.1 (below_alloc W5 (.cells #[.int .u64 (hi r.1 : Nat), .int .u64 (lo r.1 : Nat), .int .u64 (hi r.2 : Nat), .int .u64 (lo r.2 : Nat)] 36))
          have N7 := row_one (four_new W5 r 36)
          have BB7 := HC.1.alloc HC.1.size (.cells #[.int .u64 (hi r.1 : Nat), .int .u64 (lo r.1 : Nat), .int .u64 (hi r.2 : Nat), .int .u64 (lo r.2 : Nat)] 36)
          have Z7 := BB7.size
          obtain ⟨_, ⟨_, ⟨x0, x1, x2, x3⟩, _⟩, _⟩ := id HC
          clear HC H1
          go_wp2_with (at_builtin; refine wpList_append_oneR rfl (.tmp 29) (.tmp 31) rfl w4.heap.size _ [] rfl O7 _ 1 r rfl N7 (by omega) Z7 ?_; intro gn cn w8 O8 B8 _ _; have HB8 := BB7.trans B8; clear O7 N7 Z7 B8 BB7)
          go_roundw
          case rel =>
            refine ⟨k1 + 1, [] ++ [r], hlt, by go_num, HB8, O8, hide ?_, by first | (simp; done) | (simp; omega), hide ?_⟩
            · rw [JT.out, ← HS.out]
              exact JE.out.symm
            · exact JE.out ▸ jStep_fit FS1.out fr
          case measure => simp [intOf]; omega
      · obtain ⟨k, hk1⟩ : ∃ k, s.length = k + 1 := ⟨s.length - 1, by have : s.length ≠ 0 := fun e => hs (List.length_eq_zero_iff.1 e); omega⟩
        obtain ⟨m, hm⟩ := get_some (show k < s.length by omega)
        have fm : FitR m := FS1.out m (List.mem_of_getElem? hm)
        obtain ⟨g, cs, hgv, _, hgl⟩ := HO.form (by omega)
        cases hgv
        have JA := hide (jStep_at hk1 hm r)
        have JN1 : IntKind.i64.wrap ((s.length : Int) - 1) = (k : Int) := by rw [hk1]; unfold IntKind.wrap; simp [IntKind.bits, IntKind.signed]; omega
        have K0 : (k : Int) < (s.length : Int) := by omega
        have K1 : ¬ (k : Int) < 0 := by omega
        have OA := hide (fun W (H : Own W w4.heap.size (.slice (some ⟨g, 0, none⟩) s.length cs) s) => own_at4 H hm rfl)
        have HM := hide hm
        have HK := hide hk1
        have SM1 := hide (fun W v (H : Lst v [m, r] W) => SM.out m r fm fr W v H)
        clear hm hk1 hs HO HB
        cases es : soundL [m, r] with
        | true =>
          rw [es] at SM1
          have JE := hide (show jStep s r = s ++ [r] by rw [JA.out, if_pos es])
          clear es JA SM
          go_wp2_with fail
          refine wp_region_rel (HR w4 w4.heap.size wr.heap.size (.slice (some ⟨g, 0, none⟩) s.length cs) s r) [some 18, some 19, some 20, some 21, some 22, some 23, some 24, some 25, some 26, some 27, some 28] [fun yy _ => yy = .int .i64 (k : Nat), fun yy _ => yy = .bool false, fun yy _ => yy = .bool false, fun yy _ => yy = .slice (some ⟨g, 0, none⟩) s.length cs, fun yy _ => yy = .int .i64 (k : Nat), fun yy _ => yy = .pointer (some ⟨g, k * 4, none⟩), fun yy _ => yy = RV m, fun yy _ => yy = RV r, fun yy W => ∃ bb, yy = .slice (some ⟨bb, 0, none⟩) 2 2 ∧ Lst yy [m, r] W, fun yy _ => yy = .bool true, fun yy _ => yy = .bool true] 50 (by kernel_rfl) (by kernel_rfl) rfl rfl (H1.step (Below.refl _ _).drew) ?_ ?_
          · refine ⟨⟨fun _ _ _ h _ => h, fun a' W K hC hd hf hK => ?_⟩, ⟨fun _ _ _ h _ => h, fun a' W K hC hd hf hK => ?_⟩, ⟨fun _ _ _ h _ => h, fun a' W K hC hd hf hK => ?_⟩, ⟨fun _ _ _ h _ => h, fun a' W K hC hd hf hK => ?_⟩, ⟨fun _ _ _ h _ => h, fun a' W K hC hd hf hK => ?_⟩, ⟨fun _ _ _ h _ => h, fun a' W K hC hd hf hK => ?_⟩, ⟨fun _ _ _ h _ => h, fun a' W K hC hd hf hK => ?_⟩, ⟨fun _ _ _ h _ => h, fun a' W K hC hd hf hK => ?_⟩, ⟨fun _ _ _ ⟨bb, h0, h1⟩ hb => ⟨bb, h0, h1.step hb⟩, fun a' W K hC hd hf hK => ?_⟩, ⟨fun _ _ _ h _ => h, fun a' W K hC hd hf hK => ?_⟩, ⟨fun _ _ _ h _ => h, fun a' W K hC hd hf hK => ?_⟩, trivial⟩
            · refine op_plain rfl ?_
              have f6 : a'.tmps[6]?.getD undef = .int .i64 (k : Nat) := (hf.out 6 (by kernel_rfl)).trans (by simp)
              go_simp
              exact hK.out _ _ hC (Below.refl _ _) rfl
            · refine op_plain rfl ?_
              have d18 : a'.tmps[18]?.getD undef = .int .i64 (k : Nat) := hd.out 0 18 (by kernel_rfl) rfl
              go_simp
              exact hK.out _ _ hC (Below.refl _ _) rfl
            · refine op_plain rfl ?_
              have d19 : a'.tmps[19]?.getD undef = .bool false := hd.out 1 19 (by kernel_rfl) rfl
              go_simp
              exact hK.out _ _ hC (Below.refl _ _) rfl
            · have gd : a'.tmps[20]?.getD undef = .bool false := hd.out 2 20 (by kernel_rfl) rfl
              refine op_yes rfl (by kernel_rfl) gd ?_
              clear gd
              have f3 : a'.tmps[3]?.getD undef = .slice (some ⟨g, 0, none⟩) s.length cs := (hf.out 3 (by kernel_rfl)).trans (by simp)
              go_simp
              exact hK.out _ _ hC (Below.refl _ _) rfl
            · have gd : a'.tmps[20]?.getD undef = .bool false := hd.out 2 20 (by kernel_rfl) rfl
              refine op_yes rfl (by kernel_rfl) gd ?_
              clear gd
              have f6 : a'.tmps[6]?.getD undef = .int .i64 (k : Nat) := (hf.out 6 (by kernel_rfl)).trans (by simp)
              go_simp
              exact hK.out _ _ hC (Below.refl _ _) rfl
            · have gd : a'.tmps[20]?.getD undef = .bool false := hd.out 2 20 (by kernel_rfl) rfl
              refine op_yes rfl (by kernel_rfl) gd ?_
              clear gd
              have d21 : a'.tmps[21]?.getD undef = .slice (some ⟨g, 0, none⟩) s.length cs := hd.out 3 21 (by kernel_rfl) rfl
              have d22 : a'.tmps[22]?.getD undef = .int .i64 (k : Nat) := hd.out 4 22 (by kernel_rfl) rfl
              go_simp
              exact hK.out _ _ hC (Below.refl _ _) rfl
            · have gd : a'.tmps[20]?.getD undef = .bool false := hd.out 2 20 (by kernel_rfl) rfl
              refine op_yes rfl (by kernel_rfl) gd ?_
              clear gd
              have d23 : a'.tmps[23]?.getD undef = .pointer (some ⟨g, k * 4, none⟩) := hd.out 5 23 (by kernel_rfl) rfl
              obtain ⟨_, ⟨_, ⟨x0, x1, x2, x3⟩, _⟩, hO, _⟩ := id hC
              obtain ⟨a0, a1, a2, a3⟩ := OA.out W hO
              go_simp
              exact hK.out _ _ hC (Below.refl _ _) rfl
            · have gd : a'.tmps[20]?.getD undef = .bool false := hd.out 2 20 (by kernel_rfl) rfl
              refine op_yes rfl (by kernel_rfl) gd ?_
              clear gd
              have f5 : a'.tmps[5]?.getD undef = .pointer (some ⟨wr.heap.size, 0, none⟩) := (hf.out 5 (by kernel_rfl)).trans (by simp)
              obtain ⟨_, ⟨_, ⟨x0, x1, x2, x3⟩, _⟩, hO, _⟩ := id hC
              obtain ⟨a0, a1, a2, a3⟩ := OA.out W hO
              go_simp
              exact hK.out _ _ hC (Below.refl _ _) rfl
            · have gd : a'.tmps[20]?.getD undef = .bool false := hd.out 2 20 (by kernel_rfl) rfl
              refine op_yes rfl (by kernel_rfl) gd ?_
              clear gd
              have d24 : a'.tmps[24]?.getD undef = RV m := hd.out 6 24 (by kernel_rfl) rfl
              have d25 : a'.tmps[25]?.getD undef = RV r := hd.out 7 25 (by kernel_rfl) rfl
              go_simp
              exact hK.out _ _ (hC.step (below_alloc _ _)) (below_alloc _ _) ⟨_, rfl, lst_two W m r _⟩
            · have gd : a'.tmps[20]?.getD undef = .bool false := hd.out 2 20 (by kernel_rfl) rfl
              refine op_yes rfl (by kernel_rfl) gd ?_
              clear gd
              have d26 := hd.out 8 26 (by kernel_rfl) rfl
              obtain ⟨b26, e26, r26⟩ := d26
              rw [e26] at r26
              go_simp
              go_at_call 38
              refine (SM1.out W _ r26).mono ?_
              rintro e W2 ⟨rfl, hb2⟩
              exact hK.out _ _ (hC.step hb2) hb2 rfl
            · refine op_plain rfl ?_
              have d20 : a'.tmps[20]?.getD undef = .bool false := hd.out 2 20 (by kernel_rfl) rfl
              have d27 : a'.tmps[27]?.getD undef = .bool true := hd.out 9 27 (by kernel_rfl) rfl
              go_simp
              exact hK.out _ _ hC (Below.refl _ _) rfl
          · intro vs W5 HC hR
            have q0 : vs 0 = .int .i64 (k : Nat) := hR.out 0 (by decide)
            have q1 : vs 1 = .bool false := hR.out 1 (by decide)
            have q2 : vs 2 = .bool false := hR.out 2 (by decide)
            have q3 : vs 3 = .slice (some ⟨g, 0, none⟩) s.length cs := hR.out 3 (by decide)
            have q4 : vs 4 = .int .i64 (k : Nat) := hR.out 4 (by decide)
            have q5 : vs 5 = .pointer (some ⟨g, k * 4, none⟩) := hR.out 5 (by decide)
            have q6 : vs 6 = RV m := hR.out 6 (by decide)
            have q7 : vs 7 = RV r := hR.out 7 (by decide)
            generalize hq8 : vs 8 = q8
            have q9 : vs 9 = .bool true := hR.out 9 (by decide)
            have q10 : vs 10 = .bool true := hR.out 10 (by decide)
            simp only [fillF, Act.put, List.setIfInBounds_toArray, List.set_cons_zero, List.set_cons_succ, Nat.reduceAdd, q0, q1, q2, q3, q4, q5, q6, q7, hq8, q9, q10]
            clear hR q0 q1 q2 q3 q4 q5 q6 q7 hq8 q9 q10
            have O7 := own_keep HC.2.2.1 (below_alloc W5 (.cells #[.int .u64 (hi r.1 : Nat), .int .u64 (lo r.1 : Nat), .int .u64 (hi r.2 : Nat), .int .u64 (lo r.2 : Nat)] 36))
            have N7 := row_one (four_new W5 r 36)
            have BB7 := HC.1.alloc HC.1.size (.cells #[.int .u64 (hi r.1 : Nat), .int .u64 (lo r.1 : Nat), .int .u64 (hi r.2 : Nat), .int .u64 (lo r.2 : Nat)] 36)
            have Z7 := BB7.size
            obtain ⟨_, ⟨_, ⟨x0, x1, x2, x3⟩, _⟩, _⟩ := id HC
            clear HC H1
            go_wp2_with (at_builtin; refine wpList_append_oneR rfl (.tmp 29) (.tmp 31) rfl w4.heap.size _ s rfl O7 _ 1 r rfl N7 (by omega) Z7 ?_; intro gn cn w8 O8 B8 _ _; have HB8 := BB7.trans B8; clear O7 N7 Z7 B8 BB7)
            go_roundw
            case rel =>
              refine ⟨k1 + 1, s ++ [r], hlt, by go_num, HB8, O8, hide ?_, by first | (simp; done) | (simp; omega), hide ?_⟩
              · rw [JT.out, ← HS.out]
                exact JE.out.symm
              · exact JE.out ▸ jStep_fit FS1.out fr
            case measure => simp [intOf]; omega
        | false =>
          rw [es] at SM1
          have es2 : ¬ soundL [m, r] = true := by rw [es]; simp
          have JB := hide (show jStep s r = if m.2 < r.2 then s.set k (m.1, r.2) else s by rw [JA.out, if_neg es2])
          clear es es2 JA SM
          go_wp2_with fail
          refine wp_region_rel (HR w4 w4.heap.size wr.heap.size (.slice (some ⟨g, 0, none⟩) s.length cs) s r) [some 18, some 19, some 20, some 21, some 22, some 23, some 24, some 25, some 26, some 27, some 28] [fun yy _ => yy = .int .i64 (k : Nat), fun yy _ => yy = .bool false, fun yy _ => yy = .bool false, fun yy _ => yy = .slice (some ⟨g, 0, none⟩) s.length cs, fun yy _ => yy = .int .i64 (k : Nat), fun yy _ => yy = .pointer (some ⟨g, k * 4, none⟩), fun yy _ => yy = RV m, fun yy _ => yy = RV r, fun yy W => ∃ bb, yy = .slice (some ⟨bb, 0, none⟩) 2 2 ∧ Lst yy [m, r] W, fun yy _ => yy = .bool false, fun yy _ => yy = .bool false] 50 (by kernel_rfl) (by kernel_rfl) rfl rfl (H1.step (Below.refl _ _).drew) ?_ ?_
          · refine ⟨⟨fun _ _ _ h _ => h, fun a' W K hC hd hf hK => ?_⟩, ⟨fun _ _ _ h _ => h, fun a' W K hC hd hf hK => ?_⟩, ⟨fun _ _ _ h _ => h, fun a' W K hC hd hf hK => ?_⟩, ⟨fun _ _ _ h _ => h, fun a' W K hC hd hf hK => ?_⟩, ⟨fun _ _ _ h _ => h, fun a' W K hC hd hf hK => ?_⟩, ⟨fun _ _ _ h _ => h, fun a' W K hC hd hf hK => ?_⟩, ⟨fun _ _ _ h _ => h, fun a' W K hC hd hf hK => ?_⟩, ⟨fun _ _ _ h _ => h, fun a' W K hC hd hf hK => ?_⟩, ⟨fun _ _ _ ⟨bb, h0, h1⟩ hb => ⟨bb, h0, h1.step hb⟩, fun a' W K hC hd hf hK => ?_⟩, ⟨fun _ _ _ h _ => h, fun a' W K hC hd hf hK => ?_⟩, ⟨fun _ _ _ h _ => h, fun a' W K hC hd hf hK => ?_⟩, trivial⟩
            · refine op_plain rfl ?_
              have f6 : a'.tmps[6]?.getD undef = .int .i64 (k : Nat) := (hf.out 6 (by kernel_rfl)).trans (by simp)
              go_simp
              exact hK.out _ _ hC (Below.refl _ _) rfl
            · refine op_plain rfl ?_
              have d18 : a'.tmps[18]?.getD undef = .int .i64 (k : Nat) := hd.out 0 18 (by kernel_rfl) rfl
              go_simp
              exact hK.out _ _ hC (Below.refl _ _) rfl
            · refine op_plain rfl ?_
              have d19 : a'.tmps[19]?.getD undef = .bool false := hd.out 1 19 (by kernel_rfl) rfl
              go_simp
              exact hK.out _ _ hC (Below.refl _ _) rfl
            · have gd : a'.tmps[20]?.getD undef = .bool false := hd.out 2 20 (by kernel_rfl) rfl
              refine op_yes rfl (by kernel_rfl) gd ?_
              clear gd
              have f3 : a'.tmps[3]?.getD undef = .slice (some ⟨g, 0, none⟩) s.length cs := (hf.out 3 (by kernel_rfl)).trans (by simp)
              go_simp
              exact hK.out _ _ hC (Below.refl _ _) rfl
            · have gd : a'.tmps[20]?.getD undef = .bool false := hd.out 2 20 (by kernel_rfl) rfl
              refine op_yes rfl (by kernel_rfl) gd ?_
              clear gd
              have f6 : a'.tmps[6]?.getD undef = .int .i64 (k : Nat) := (hf.out 6 (by kernel_rfl)).trans (by simp)
              go_simp
              exact hK.out _ _ hC (Below.refl _ _) rfl
            · have gd : a'.tmps[20]?.getD undef = .bool false := hd.out 2 20 (by kernel_rfl) rfl
              refine op_yes rfl (by kernel_rfl) gd ?_
              clear gd
              have d21 : a'.tmps[21]?.getD undef = .slice (some ⟨g, 0, none⟩) s.length cs := hd.out 3 21 (by kernel_rfl) rfl
              have d22 : a'.tmps[22]?.getD undef = .int .i64 (k : Nat) := hd.out 4 22 (by kernel_rfl) rfl
              go_simp
              exact hK.out _ _ hC (Below.refl _ _) rfl
            · have gd : a'.tmps[20]?.getD undef = .bool false := hd.out 2 20 (by kernel_rfl) rfl
              refine op_yes rfl (by kernel_rfl) gd ?_
              clear gd
              have d23 : a'.tmps[23]?.getD undef = .pointer (some ⟨g, k * 4, none⟩) := hd.out 5 23 (by kernel_rfl) rfl
              obtain ⟨_, ⟨_, ⟨x0, x1, x2, x3⟩, _⟩, hO, _⟩ := id hC
              obtain ⟨a0, a1, a2, a3⟩ := OA.out W hO
              go_simp
              exact hK.out _ _ hC (Below.refl _ _) rfl
            · have gd : a'.tmps[20]?.getD undef = .bool false := hd.out 2 20 (by kernel_rfl) rfl
              refine op_yes rfl (by kernel_rfl) gd ?_
              clear gd
              have f5 : a'.tmps[5]?.getD undef = .pointer (some ⟨wr.heap.size, 0, none⟩) := (hf.out 5 (by kernel_rfl)).trans (by simp)
              obtain ⟨_, ⟨_, ⟨x0, x1, x2, x3⟩, _⟩, hO, _⟩ := id hC
              obtain ⟨a0, a1, a2, a3⟩ := OA.out W hO
              go_simp
              exact hK.out _ _ hC (Below.refl _ _) rfl
            · have gd : a'.tmps[20]?.getD undef = .bool false := hd.out 2 20 (by kernel_rfl) rfl
              refine op_yes rfl (by kernel_rfl) gd ?_
              clear gd
              have d24 : a'.tmps[24]?.getD undef = RV m := hd.out 6 24 (by kernel_rfl) rfl
              have d25 : a'.tmps[25]?.getD undef = RV r := hd.out 7 25 (by kernel_rfl) rfl
              go_simp
              exact hK.out _ _ (hC.step (below_alloc _ _)) (below_alloc _ _) ⟨_, rfl, lst_two W m r _⟩
            · have gd : a'.tmps[20]?.getD undef = .bool false := hd.out 2 20 (by kernel_rfl) rfl
              refine op_yes rfl (by kernel_rfl) gd ?_
              clear gd
              have d26 := hd.out 8 26 (by kernel_rfl) rfl
              obtain ⟨b26, e26, r26⟩ := d26
              rw [e26] at r26
              go_simp
              go_at_call 38
              refine (SM1.out W _ r26).mono ?_
              rintro e W2 ⟨rfl, hb2⟩
              exact hK.out _ _ (hC.step hb2) hb2 rfl
            · refine op_plain rfl ?_
              have d20 : a'.tmps[20]?.getD undef = .bool false := hd.out 2 20 (by kernel_rfl) rfl
              have d27 : a'.tmps[27]?.getD undef = .bool false := hd.out 9 27 (by kernel_rfl) rfl
              go_simp
              exact hK.out _ _ hC (Below.refl _ _) rfl
          · intro vs W5 HC hR
            have q0 : vs 0 = .int .i64 (k : Nat) := hR.out 0 (by decide)
            have q1 : vs 1 = .bool false := hR.out 1 (by decide)
            have q2 : vs 2 = .bool false := hR.out 2 (by decide)
            have q3 : vs 3 = .slice (some ⟨g, 0, none⟩) s.length cs := hR.out 3 (by decide)
            have q4 : vs 4 = .int .i64 (k : Nat) := hR.out 4 (by decide)
            have q5 : vs 5 = .pointer (some ⟨g, k * 4, none⟩) := hR.out 5 (by decide)
            have q6 : vs 6 = RV m := hR.out 6 (by decide)
            have q7 : vs 7 = RV r := hR.out 7 (by decide)
            generalize hq8 : vs 8 = q8
            have q9 : vs 9 = .bool false := hR.out 9 (by decide)
            have q10 : vs 10 = .bool false := hR.out 10 (by decide)
            simp only [fillF, Act.put, List.setIfInBounds_toArray, List.set_cons_zero, List.set_cons_succ, Nat.reduceAdd, q0, q1, q2, q3, q4, q5, q6, q7, hq8, q9, q10]
            clear hR q0 q1 q2 q3 q4 q5 q6 q7 hq8 q9 q10
            clear SM1 H1
            rcases Nat.lt_trichotomy m.2 r.2 with hlr | hlr | hlr
            · have CM := hide (fun W => via (cmp_any m.2 r.2 W) (v' := .int .i64 (-1)) (by rw [cmpS_lt hlr]))
              have JE := hide (show jStep s r = s.set k (m.1, r.2) by rw [JB.out, if_pos hlr])
              clear hlr JB
              go_wp2_with fail
              refine wp_region_quiet (C := HR w4 w4.heap.size wr.heap.size (.slice (some ⟨g, 0, none⟩) s.length cs) s r) (by kernel_rfl) (by kernel_rfl) (HR.drew1 HC) (wpQuiet_step (fun K0 hK0 => ?_))
              go_simp
              first | (with_reducible refine hK0 _ (wpQuiet_step (fun K1 hK1 => ?_))) | (with_reducible refine ⟨_, fun _ _ => rfl, hK0 _ (wpQuiet_step (fun K1 hK1 => ?_))⟩) | (rw [if_neg (by intro e; cases e)]; with_reducible refine hK0 _ (wpQuiet_step (fun K1 hK1 => ?_)))
              clear hK0 K0
              go_simp
              first | (with_reducible refine hK1 _ (wpQuiet_step (fun K0 hK0 => ?_))) | (with_reducible refine ⟨_, fun _ _ => rfl, hK1 _ (wpQuiet_step (fun K0 hK0 => ?_))⟩) | (rw [if_neg (by intro e; cases e)]; with_reducible refine hK1 _ (wpQuiet_step (fun K0 hK0 => ?_)))
              clear hK1 K1
              go_simp
              first | (with_reducible refine hK0 _ (wpQuiet_step (fun K1 hK1 => ?_))) | (with_reducible refine ⟨_, fun _ _ => rfl, hK0 _ (wpQuiet_step (fun K1 hK1 => ?_))⟩) | (rw [if_neg (by intro e; cases e)]; with_reducible refine hK0 _ (wpQuiet_step (fun K1 hK1 => ?_)))
              clear hK0 K0
              go_simp
              first | (with_reducible refine hK1 _ (wpQuiet_step (fun K0 hK0 => ?_))) | (with_reducible refine ⟨_, fun _ _ => rfl, hK1 _ (wpQuiet_step (fun K0 hK0 => ?_))⟩) | (rw [if_neg (by intro e; cases e)]; with_reducible refine hK1 _ (wpQuiet_step (fun K0 hK0 => ?_)))
              clear hK1 K1
              go_simp
              refine ⟨A m.2, fun W hW => ?_, hK0 _ (wpQuiet_step (fun K1 hK1 => ?_))⟩
              · ((obtain ⟨a0, a1, a2, a3⟩ := OA.out W hW.2.2.1; simp [go_sem, a2, a3]))
              clear hK0 K0
              go_simp
              first | (with_reducible refine hK1 _ (wpQuiet_step (fun K0 hK0 => ?_))) | (with_reducible refine ⟨_, fun _ _ => rfl, hK1 _ (wpQuiet_step (fun K0 hK0 => ?_))⟩) | (rw [if_neg (by intro e; cases e)]; with_reducible refine hK1 _ (wpQuiet_step (fun K0 hK0 => ?_)))
              clear hK1 K1
              go_simp
              refine ⟨A r.2, fun W hW => ?_, hK0 _ (wpQuiet_step (fun K1 hK1 => ?_))⟩
              · ((obtain ⟨_, ⟨_, ⟨x0, x1, x2, x3⟩, _⟩, _⟩ := id hW; simp [go_sem, x2, x3]))
              clear hK0 K0
              go_simp
              refine ⟨.int .i64 (-1), fun W hW => ?_, hK1 _ (wpQuiet_step (fun K0 hK0 => ?_))⟩
              · exact (CM.out W).mono fun e w2 ⟨he, hb⟩ => ⟨he, HR.step hW hb⟩
              clear hK1 K1
              go_simp
              first | (with_reducible refine hK0 _ (wpQuiet_nil ?_)) | (with_reducible refine ⟨_, fun _ _ => rfl, hK0 _ (wpQuiet_nil ?_)⟩) | (rw [if_neg (by intro e; cases e)]; with_reducible refine hK0 _ (wpQuiet_nil ?_))
              clear hK0 K0
              intro w6 H6
              obtain ⟨a0, a1, a2, a3⟩ := OA.out w6 H6.2.2.1
              have f2 := H6.2.2.1.frozenAt (k * 4 + 2)
              have f3 := H6.2.2.1.frozenAt (k * 4 + 3)
              obtain ⟨_, ⟨_, ⟨x0, x1, x2, x3⟩, _⟩, _⟩ := id H6
              have NG : wr.heap.size ≠ g := fun e => H6.2.2.2.1 (by rw [e]; rfl)
              have S6 := hide (own_setL H6.2.2.1 HM.out r.2)
              have GG := (H6.2.2.1.lt g rfl).1
              clear OA CM
              go_wp2
              go_roundw
              case rel =>
                refine ⟨k1 + 1, s.set k (m.1, r.2), hlt, by go_num, (H6.1.setCell GG _).setCell GG _, ?_, hide ?_, by rw [List.length_set]; omega, hide ?_⟩
                · exact S6.out
                · rw [JT.out, ← HS.out]; exact JE.out.symm
                · exact JE.out ▸ jStep_fit FS1.out fr
              case measure => simp [intOf]; omega
            · have CM := hide (fun W => via (cmp_any m.2 r.2 W) (v' := .int .i64 (0)) (by rw [cmpS_eq hlr]))
              have JE := hide (show jStep s r = s by rw [JB.out, if_neg (by omega)])
              clear hlr JB
              go_wp2_with fail
              refine wp_region_quiet (C := HR w4 w4.heap.size wr.heap.size (.slice (some ⟨g, 0, none⟩) s.length cs) s r) (by kernel_rfl) (by kernel_rfl) (HR.drew1 HC) (wpQuiet_step (fun K0 hK0 => ?_))
              go_simp
              first | (with_reducible refine hK0 _ (wpQuiet_step (fun K1 hK1 => ?_))) | (with_reducible refine ⟨_, fun _ _ => rfl, hK0 _ (wpQuiet_step (fun K1 hK1 => ?_))⟩) | (rw [if_neg (by intro e; cases e)]; with_reducible refine hK0 _ (wpQuiet_step (fun K1 hK1 => ?_)))
              clear hK0 K0
              go_simp
              first | (with_reducible refine hK1 _ (wpQuiet_step (fun K0 hK0 => ?_))) | (with_reducible refine ⟨_, fun _ _ => rfl, hK1 _ (wpQuiet_step (fun K0 hK0 => ?_))⟩) | (rw [if_neg (by intro e; cases e)]; with_reducible refine hK1 _ (wpQuiet_step (fun K0 hK0 => ?_)))
              clear hK1 K1
              go_simp
              first | (with_reducible refine hK0 _ (wpQuiet_step (fun K1 hK1 => ?_))) | (with_reducible refine ⟨_, fun _ _ => rfl, hK0 _ (wpQuiet_step (fun K1 hK1 => ?_))⟩) | (rw [if_neg (by intro e; cases e)]; with_reducible refine hK0 _ (wpQuiet_step (fun K1 hK1 => ?_)))
              clear hK0 K0
              go_simp
              first | (with_reducible refine hK1 _ (wpQuiet_step (fun K0 hK0 => ?_))) | (with_reducible refine ⟨_, fun _ _ => rfl, hK1 _ (wpQuiet_step (fun K0 hK0 => ?_))⟩) | (rw [if_neg (by intro e; cases e)]; with_reducible refine hK1 _ (wpQuiet_step (fun K0 hK0 => ?_)))
              clear hK1 K1
              go_simp
              refine ⟨A m.2, fun W hW => ?_, hK0 _ (wpQuiet_step (fun K1 hK1 => ?_))⟩
              · ((obtain ⟨a0, a1, a2, a3⟩ := OA.out W hW.2.2.1; simp [go_sem, a2, a3]))
              clear hK0 K0
              go_simp
              first | (with_reducible refine hK1 _ (wpQuiet_step (fun K0 hK0 => ?_))) | (with_reducible refine ⟨_, fun _ _ => rfl, hK1 _ (wpQuiet_step (fun K0 hK0 => ?_))⟩) | (rw [if_neg (by intro e; cases e)]; with_reducible refine hK1 _ (wpQuiet_step (fun K0 hK0 => ?_)))
              clear hK1 K1
              go_simp
              refine ⟨A r.2, fun W hW => ?_, hK0 _ (wpQuiet_step (fun K1 hK1 => ?_))⟩
              · ((obtain ⟨_, ⟨_, ⟨x0, x1, x2, x3⟩, _⟩, _⟩ := id hW; simp [go_sem, x2, x3]))
              clear hK0 K0
              go_simp
              refine ⟨.int .i64 (0), fun W hW => ?_, hK1 _ (wpQuiet_step (fun K0 hK0 => ?_))⟩
              · exact (CM.out W).mono fun e w2 ⟨he, hb⟩ => ⟨he, HR.step hW hb⟩
              clear hK1 K1
              go_simp
              first | (with_reducible refine hK0 _ (wpQuiet_nil ?_)) | (with_reducible refine ⟨_, fun _ _ => rfl, hK0 _ (wpQuiet_nil ?_)⟩) | (rw [if_neg (by intro e; cases e)]; with_reducible refine hK0 _ (wpQuiet_nil ?_))
              clear hK0 K0
              intro w6 H6
              go_wp2
              go_roundw
              case rel => exact ⟨k1 + 1, s, hlt, by go_num, H6.1, H6.2.2.1, hide (by rw [JT.out, ← HS.out]; exact JE.out.symm), by omega, FS1⟩
              case measure => simp [intOf]; omega
            · have CM := hide (fun W => via (cmp_any m.2 r.2 W) (v' := .int .i64 (1)) (by rw [cmpS_gt hlr]))
              have JE := hide (show jStep s r = s by rw [JB.out, if_neg (by omega)])
              clear hlr JB
              go_wp2_with fail
              refine wp_region_quiet (C := HR w4 w4.heap.size wr.heap.size (.slice (some ⟨g, 0, none⟩) s.length cs) s r) (by kernel_rfl) (by kernel_rfl) (HR.drew1 HC) (wpQuiet_step (fun K0 hK0 => ?_))
              go_simp
              first | (with_reducible refine hK0 _ (wpQuiet_step (fun K1 hK1 => ?_))) | (with_reducible refine ⟨_, fun _ _ => rfl, hK0 _ (wpQuiet_step (fun K1 hK1 => ?_))⟩) | (rw [if_neg (by intro e; cases e)]; with_reducible refine hK0 _ (wpQuiet_step (fun K1 hK1 => ?_)))
              clear hK0 K0
              go_simp
              first | (with_reducible refine hK1 _ (wpQuiet_step (fun K0 hK0 => ?_))) | (with_reducible refine ⟨_, fun _ _ => rfl, hK1 _ (wpQuiet_step (fun K0 hK0 => ?_))⟩) | (rw [if_neg (by intro e; cases e)]; with_reducible refine hK1 _ (wpQuiet_step (fun K0 hK0 => ?_)))
              clear hK1 K1
              go_simp
              first | (with_reducible refine hK0 _ (wpQuiet_step (fun K1 hK1 => ?_))) | (with_reducible refine ⟨_, fun _ _ => rfl, hK0 _ (wpQuiet_step (fun K1 hK1 => ?_))⟩) | (rw [if_neg (by intro e; cases e)]; with_reducible refine hK0 _ (wpQuiet_step (fun K1 hK1 => ?_)))
              clear hK0 K0
              go_simp
              first | (with_reducible refine hK1 _ (wpQuiet_step (fun K0 hK0 => ?_))) | (with_reducible refine ⟨_, fun _ _ => rfl, hK1 _ (wpQuiet_step (fun K0 hK0 => ?_))⟩) | (rw [if_neg (by intro e; cases e)]; with_reducible refine hK1 _ (wpQuiet_step (fun K0 hK0 => ?_)))
              clear hK1 K1
              go_simp
              refine ⟨A m.2, fun W hW => ?_, hK0 _ (wpQuiet_step (fun K1 hK1 => ?_))⟩
              · ((obtain ⟨a0, a1, a2, a3⟩ := OA.out W hW.2.2.1; simp [go_sem, a2, a3]))
              clear hK0 K0
              go_simp
              first | (with_reducible refine hK1 _ (wpQuiet_step (fun K0 hK0 => ?_))) | (with_reducible refine ⟨_, fun _ _ => rfl, hK1 _ (wpQuiet_step (fun K0 hK0 => ?_))⟩) | (rw [if_neg (by intro e; cases e)]; with_reducible refine hK1 _ (wpQuiet_step (fun K0 hK0 => ?_)))
              clear hK1 K1
              go_simp
              refine ⟨A r.2, fun W hW => ?_, hK0 _ (wpQuiet_step (fun K1 hK1 => ?_))⟩
              · ((obtain ⟨_, ⟨_, ⟨x0, x1, x2, x3⟩, _⟩, _⟩ := id hW; simp [go_sem, x2, x3]))
              clear hK0 K0
              go_simp
              refine ⟨.int .i64 (1), fun W hW => ?_, hK1 _ (wpQuiet_step (fun K0 hK0 => ?_))⟩
              · exact (CM.out W).mono fun e w2 ⟨he, hb⟩ => ⟨he, HR.step hW hb⟩
              clear hK1 K1
              go_simp
              first | (with_reducible refine hK0 _ (wpQuiet_nil ?_)) | (with_reducible refine ⟨_, fun _ _ => rfl, hK0 _ (wpQuiet_nil ?_)⟩) | (rw [if_neg (by intro e; cases e)]; with_reducible refine hK0 _ (wpQuiet_nil ?_))
              clear hK0 K0
              intro w6 H6
              go_wp2
              go_roundw
              case rel => exact ⟨k1 + 1, s, hlt, by go_num, H6.1, H6.2.2.1, hide (by rw [JT.out, ← HS.out]; exact JE.out.symm), by omega, FS1⟩
              case measure => simp [intOf]; omega
    · have e : R.take k1 = R := List.take_of_length_le (by omega)
      have RE := hide (show s = jnL l by rw [HS.out, e]; exact JN.out)
      clear e
      go_wp2
      go_ret
      exact ⟨_, rfl, hb4.trans (HB.mono (Nat.le_trans hb hb4.size)), own_base (RE.out ▸ HO) hb4.size⟩
end Go.Proofs.YtfmhpnendcikoaaGreat
