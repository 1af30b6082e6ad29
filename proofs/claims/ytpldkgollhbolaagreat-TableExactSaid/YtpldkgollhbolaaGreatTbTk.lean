/-
  The contracts of a table's All, Client and Meets. Conditions: the words are words of 64 bits, a text is no longer than an int (every value of the types is such).
  The contract of a table's takeBack: it makes the changes of a list from its end on. Conditions: they can be made so, one after another; the list lies in memory, in no block of the table.
-/
import Derived.Test.YtpldkgollhbolaaGreatTbTh
import Derived.Test.YtpldkgollhbolaaGreatTbLi
namespace Go.Proofs.YtpldkgollhbolaaGreat
open Go.RowKit Go.Joins Go.Maps

variable {w w' V W W' : World} {t km om : Nat} {O : Nat → Prop} {v : Value} {E : List En} {L : List Ls}
theorem ResL.older {R : List Ls} (h : ResL V W v R) (hs : w.heap.size ≤ V.heap.size) : ResL w W v R := by
  obtain ⟨p, cap, e, h⟩ := h
  refine ⟨p, cap, e, ?_⟩
  rcases h with h | ⟨g, e2, h1, h2, h3⟩
  · exact Or.inl h
  · exact Or.inr ⟨g, e2, Nat.le_trans hs h1, h2, h3⟩
theorem all1_any (x : Ls) (w : World) : Calls Tryz.prog 35 #[Lv x] w (Gives (.bool true) w) := by
  go_enter Tryz.func35, Tryz.ntmps35
  go_wp2
  go_ret
  exact ⟨rfl, below_alloc _ _⟩
theorem all_any (h : IsTab w t O L) : Calls Tryz.prog 11 #[Pt t] w (LsPost w L) := by
  have T := those_any h (fun _ => true) (f := 35) (cb := #[]) (enters_of Tryz.func35 (by kernel_rfl) rfl) (fun W x _ _ => all1_any x W)
  rw [show L.filter (fun _ => true) = L from List.filter_eq_self.2 (fun _ _ => rfl)] at T
  have HT := hide T
  clear T h
  go_enter Tryz.func11, Tryz.ntmps11
  go_wp2_with fail
  refine HT.out.mono ?_
  rintro e w2 ⟨v, rfl, hr, hb⟩
  have HR := hide hr
  clear hr
  go_wp2
  go_ret
  exact ⟨v, rfl, HR.out, hb⟩
def clientB (c : ByteArray) (x : Ls) : Bool := decide (x.st = 1 ∧ x.cl = c)
theorem bytes_ne {a b : ByteArray} : (a.toList == b.toList) = decide (a = b) := by
  rw [Bool.eq_iff_iff, beq_iff_eq, decide_eq_true_iff, ByteArray.toList_eq, ByteArray.toList_eq]
  exact ⟨fun h => ByteArray.ext (Array.toList_inj.1 h), fun h => by rw [h]⟩
theorem client1_any (x : Ls) (c : ByteArray) (b : Nat) (hb : w.cell? ⟨b, 0, none⟩ = some (.string c)) (hlt : b < w.heap.size) : Calls Tryz.prog 44 #[Lv x, Pt b] w (Gives (.bool (clientB c x)) w) := by
  by_cases h1 : x.st = 1
  · have hs : (x.st == 1) = true := by rw [h1]; rfl
    have e := bytes_ne (a := x.cl) (b := c)
    have R : Hid (∀ r W, decide (x.cl = c) = r → Below w.heap.size w W → Gives (.bool (clientB c x)) w (.returned (.bool r)) W) := hide (fun r W hr hB => ⟨by rw [← hr]; unfold clientB; congr 2; simp [h1], hB⟩)
    generalize decide (x.cl = c) = r at *
    clear h1
    go_enter Tryz.func44, Tryz.ntmps44
    go_wp2
    go_ret
    exact R.out _ _ rfl (below_alloc _ _)
  · have hs : (x.st == 1) = false := by rw [beq_eq_false_iff_ne]; exact h1
    have R : Hid (∀ W, Below w.heap.size w W → Gives (.bool (clientB c x)) w (.returned (.bool false)) W) := hide (fun W hB => ⟨by unfold clientB; rw [decide_eq_false (fun h => h1 h.1)], hB⟩)
    clear h1
    go_enter Tryz.func44, Tryz.ntmps44
    go_wp2
    go_ret
    exact R.out _ (below_alloc _ _)
theorem client_any (h : IsTab w t O L) (c : ByteArray) : Calls Tryz.prog 19 #[Pt t, .string c] w (LsPost w (L.filter (clientB c))) := by
  have B0 := below_alloc w (.cells #[.string c] 9)
  have X0 : (w.alloc (.cells #[.string c] 9)).heap[w.heap.size]? = some (.cells #[.string c] 9 (0, 0)) := heap_alloc_new w _
  have T := those_any (h.below B0) (clientB c) (f := 44) (cb := #[Pt w.heap.size]) (enters_of Tryz.func44 (by kernel_rfl) rfl)
    (fun W x hb _ => client1_any x c w.heap.size (keep_cell hb (cell_at X0 0)) (Nat.lt_of_lt_of_le (lt_of_block X0) hb.size))
  have HT := hide T
  have HB := hide B0
  clear T h B0 X0
  go_enter Tryz.func19, Tryz.ntmps19
  go_wp2_with fail
  refine HT.out.mono ?_
  rintro e w2 ⟨v, rfl, hr, hb⟩
  have HR := hide hr
  clear hr
  go_wp2
  go_ret
  exact ⟨v, rfl, HR.out.older HB.out.size, chain HB.out hb⟩
def meetsB (k : Int) (p : Nat) (n : Int) (x : Ls) : Bool := meetS k p n x.kind x.p x.n
theorem meets1_any (x : Ls) {k : Int} {p : Nat} {n : Int} (a b : Nat) (ha : w.cell? ⟨a, 0, none⟩ = some (.int .i64 k)) (hb0 : w.cell? ⟨b, 0, none⟩ = some (.int .u64 (hi p : Nat))) (hb1 : w.cell? ⟨b, 1, none⟩ = some (.int .u64 (lo p : Nat))) (hb2 : w.cell? ⟨b, 2, none⟩ = some (.int .i64 n))
    (hla : a < w.heap.size) (hlb : b < w.heap.size) (hp : Fits p) (hx : Fits x.p) : Calls Tryz.prog 55 #[Lv x, Pt a, Pt b] w (Gives (.bool (meetsB k p n x)) w) := by
  have MT := hide (fun W => meet_any k hp n x.kind hx x.n W)
  have R : Hid (∀ W, Below w.heap.size w W → Gives (.bool (meetsB k p n x)) w (.returned (.bool (meetS k p n x.kind x.p x.n))) W) := hide (fun W h => ⟨rfl, h⟩)
  generalize meetsB k p n x = res at *
  generalize meetS k p n x.kind x.p x.n = ms at *
  clear hp hx
  go_enter Tryz.func55, Tryz.ntmps55
  go_wp2_with fail
  refine (MT.out _).mono ?_
  rintro e w2 ⟨rfl, hb⟩
  go_wp2
  go_ret
  exact R.out _ (chain (below_alloc _ _) hb)
theorem meets_any2 (h : IsTab w t O L) (k : Int) {p : Nat} (hp : Fits p) (n : Int) : Calls Tryz.prog 31 #[Pt t, .int .i64 k, Pv p n] w (LsPost w (L.filter (meetsB k p n))) := by
  have B0 := below_alloc w (.cells #[.int .i64 k] 3)
  have B1 := below_alloc (w.alloc (.cells #[.int .i64 k] 3)) (.cells #[.int .u64 (hi p : Nat), .int .u64 (lo p : Nat), .int .i64 n] 27)
  have X0 : ((w.alloc (.cells #[.int .i64 k] 3)).alloc (.cells #[.int .u64 (hi p : Nat), .int .u64 (lo p : Nat), .int .i64 n] 27)).heap[w.heap.size]? = some (.cells #[.int .i64 k] 3 (0, 0)) := (Fr.ofBelow B1).keep (heap_alloc_new w _) (fun e => e)
  have X1 : ((w.alloc (.cells #[.int .i64 k] 3)).alloc (.cells #[.int .u64 (hi p : Nat), .int .u64 (lo p : Nat), .int .i64 n] 27)).heap[w.heap.size + 1]? = some (.cells #[.int .u64 (hi p : Nat), .int .u64 (lo p : Nat), .int .i64 n] 27 (0, 0)) := alloc_at _ (by simp)
  have T := those_any (h.below (chain B0 B1)) (meetsB k p n) (f := 55) (cb := #[Pt w.heap.size, Pt (w.heap.size + 1)]) (enters_of Tryz.func55 (by kernel_rfl) rfl)
    (fun W x hb hx => meets1_any x w.heap.size (w.heap.size + 1) (keep_cell hb (cell_at X0 0)) (keep_cell hb (cell_at X1 0)) (keep_cell hb (cell_at X1 1)) (keep_cell hb (cell_at X1 2)) (Nat.lt_of_lt_of_le (lt_of_block X0) hb.size) (Nat.lt_of_lt_of_le (lt_of_block X1) hb.size) hp hx.p)
  have HT := hide T
  have HB := hide (chain B0 B1)
  clear T h B0 X0 B1 X1 hp
  go_enter Tryz.func31, Tryz.ntmps31
  go_wp2_with fail
  refine HT.out.mono ?_
  rintro e w2 ⟨v, rfl, hr, hb⟩
  have HR := hide hr
  clear hr
  go_wp2
  go_ret
  exact ⟨v, rfl, HR.out.older HB.out.size, chain HB.out hb⟩
end Go.Proofs.YtpldkgollhbolaaGreat
namespace Go.Proofs.YtpldkgollhbolaaGreat
open Go.RowKit Go.Joins Go.Maps Go.Shelf
attribute [local go_sem] Oper.semAt_some

variable {w w' W W' : World} {t km om : Nat} {O : Nat → Prop} {v : Value} {E : List En} {L : List Ls}
/-- what a round of takeBack finds, what it leaves -/
structure MidT (w W : World) (t km om : Nat) (O : Nat → Prop) (p : Option Go.Addr) (cap : Nat) (l : List Ch) (M : List Ls) : Prop where
  fr : Fr O w W
  box : W.heap[w.heap.size]? = some (.cells #[Pt t] 32 (0, 0))
  row : W.heap[w.heap.size + 1]? = some (.cells #[.slice p l.length cap] 36 (0, 0))
  lst : LstC p l W
  tab : ∃ O2 v E, (∀ k, O2 k → O k ∨ w.heap.size + 1 + 1 ≤ k) ∧ TabE W t km om O2 v E ∧ SrtL M ∧ M.Perm (E.map (·.2))
theorem AtC.fr {b o : Nat} {c : Ch} {S : Nat → Prop} (h : AtC b o c W) (f : Fr S W W') (hn : ¬ S b) : AtC b o c W' := by
  have k : ∀ i x, W.cell? ⟨b, i, none⟩ = some x → W'.cell? ⟨b, i, none⟩ = some x := fun i x e => by
    have hb : b < W.heap.size := by
      rcases Nat.lt_or_ge b W.heap.size with h | h
      · exact h
      · unfold World.cell? at e; rw [Array.getElem?_eq_none h] at e; cases e
    rw [World.cell?_of_block (a := ⟨b, i, none⟩) (f.block b hb hn)]; exact e
  obtain ⟨h0, h1, h2, h3, h4, h5, h6, h7, h8⟩ := h
  exact ⟨k _ _ h0, k _ _ h1, k _ _ h2, k _ _ h3, k _ _ h4, k _ _ h5, k _ _ h6, k _ _ h7, k _ _ h8⟩
theorem LstC.fr {p : Option Go.Addr} {l : List Ch} {S : Nat → Prop} (h : LstC p l W) (f : Fr S W W') (hn : ∀ b o, p = some ⟨b, o, none⟩ → ¬ S b) : LstC p l W' := fun k c hk => by
  obtain ⟨b, o, h1, h2⟩ := h k c hk
  exact ⟨b, o, h1, h2.fr f (hn b o h1)⟩
theorem AtC.cells {b o : Nat} {c : Ch} (h : AtC b o c W) : ∃ cur ty fz, W.heap[b]? = some (.cells cur ty fz) := by
  have e := h.1
  unfold World.cell? at e
  cases hb : W.heap[b]? with
  | none => simp [hb] at e
  | some o => cases o <;> simp_all
theorem midT_own {p : Option Go.Addr} {cap : Nat} {l : List Ch} {M : List Ch → List Ls} (hk : km < w.heap.size + 1 + 1) (ho : om < w.heap.size + 1 + 1) : OwnFrom (w.heap.size + 1 + 1) (fun pre W => MidT w W t km om O p cap l (M pre)) := by
  intro pre X Y row h hg hr
  have f := Fr.grown hg
  have ne : ∀ {b : Nat} {cur : Array Value} {ty : TypeId} {fz : Nat × Nat}, X.heap[b]? = some (.cells cur ty fz) → ¬ some b = row := fun hb e => by
    obtain ⟨_, o, h1, h2⟩ := hr _ e.symm
    rw [h1] at hb; cases hb; cases h2
  obtain ⟨O2, v, E, h1, h2, h3⟩ := h.tab
  refine ⟨h.fr.trans f (fun i hi e => ?_), f.keep h.box (ne h.box), f.keep h.row (ne h.row), fun k c hkc => ?_, O2, v, E, h1, h2.abides hk ho hg hr, h3⟩
  · have := (hr i e.symm).1
    omega
  · obtain ⟨b, o, e1, e2⟩ := h.lst k c hkc
    obtain ⟨cur, ty, fz, hb⟩ := e2.cells
    exact ⟨b, o, e1, e2.fr f (ne hb)⟩
def BackPost (w : World) (t km om : Nat) (O : Nat → Prop) (M : List Ls) (e : Ending) (w' : World) : Prop :=
  e = .returned (.tuple #[]) ∧ Fr O w w' ∧ ∃ v' E', TabE w' t km om (Gr O w w') v' E' ∧ SrtL M ∧ M.Perm (E'.map (·.2))
set_option maxRecDepth 100000 in
set_option maxHeartbeats 4000000 in
theorem takeBack_any (h : TabE w t km om O v E) (hs : SrtL L) (hp : L.Perm (E.map (·.2))) {l : List Ch} (hl : l.length ≤ maxLen) {p : Option Go.Addr} {cap : Nat} (hu : LstC p l w) (hn : ∀ b o, p = some ⟨b, o, none⟩ → b < w.heap.size ∧ ¬ O b) (hb : okB L l.reverse) :
    Calls Tryz.prog 23 #[Pt t, .slice p l.length cap] w (BackPost w t km om O (applyG L l.reverse)) := by
  refine (callsIn_wide (n := 3)).1 ?_
  refine callsIn_of_wp_marks Tryz.func23 rfl trivial ?_ rfl
  simp only [Tryz.ntmps23, List.size_toArray, List.length_cons, List.length_nil, Nat.reduceAdd, Nat.reduceSub, Array.replicate_succ, Array.replicate_zero, List.push_toArray, List.append_toArray, List.nil_append, List.cons_append]
  have hkm : km < w.heap.size + 1 + 1 := by have := h.ends.lt _ h.ownK.1; omega
  have hom : om < w.heap.size + 1 + 1 := by have := h.ends.lt _ h.ownK.2; omega
  have hlt := h.ends.lt
  have M0 : Hid (MidT w ((w.alloc (.cells #[Pt t] 32)).alloc (.cells #[.slice p l.length cap] 36)) t km om O p cap l L) := hide (by
    have b1 := below_alloc w (.cells #[Pt t] 32)
    have b2 := below_alloc (w.alloc (.cells #[Pt t] 32)) (.cells #[.slice p l.length cap] 36)
    have f := Fr.ofBelow (chain b1 b2)
    refine ⟨f.no, (Fr.ofBelow b2).keep (heap_alloc_new w _) (fun e => e), alloc_at _ (by simp), hu.fr f (fun _ _ _ e => e), O, v, E, fun k hk => Or.inl hk, h.fr f (fun _ _ e => e), hs, hp⟩)
  have KB := hide hb
  have KN := hide hn
  have KL := hide hl
  have KT := hide hlt
  clear h hs hp hu hb hn hl hlt
  gi_wp2_with (refine ⟨trivial, ?_⟩; gi_at_call 49; refine (backward_in _ _ _ _).mono ?_; rintro e w' ⟨rfl, rfl⟩)
  have hsz : ((w.alloc (.cells #[Pt t] 32)).alloc (.cells #[.slice p l.length cap] 36)).heap.size = w.heap.size + 1 + 1 := by simp
  generalize (w.alloc (.cells #[Pt t] 32)).alloc (.cells #[.slice p l.length cap] 36) = V at *
  have OWN := midT_own (w := w) (t := t) (O := O) (p := p) (cap := cap) (l := l) (M := fun pre => applyG L pre) hkm hom
  rw [← hsz] at OWN
  refine told_range (by omega) (gf := 67) (lb := #[.pointer (some ⟨w.heap.size + 1, 0, none⟩)]) rfl (enters_of Tryz.func67 (by kernel_rfl) rfl)
    (backward1_in 2 (by omega) (w.heap.size + 1) p cap l KL.out) (fun _ _ => rfl)
    (fun pre W => MidT w W t km om O p cap l (applyG L pre)) OWN (fun pre W h => ⟨by rw [cell_at h.row]; rfl, h.lst⟩) M0.out
    (fun x a' W => ∃ Bx i, w.heap.size + 1 + 1 ≤ Bx ∧ W.heap[Bx]? = some (.cells (changeC x) 41 (0, 0)) ∧ a' = { tmps := #[Pt t, .slice p l.length cap, Pt w.heap.size, undef, undef, Pt Bx, .slice p l.length cap, .func (.func 67) #[] #[.pointer (some ⟨w.heap.size + 1, 0, none⟩)], .int .i64 i, Cv x, undef, undef, undef], defers := [] })
    (fun x a' _ X Y row hq hg hr => by
      obtain ⟨Bx, i, h1, h2, h3⟩ := hq
      exact ⟨Bx, i, h1, (Fr.grown hg).keep h2 (fun e => by
        obtain ⟨_, o, h4, h5⟩ := hr _ e.symm
        rw [h4] at h2; cases h2; cases h5), h3⟩)
    ?assign ?body ?done
  case assign =>
    rintro lp pre i x W K hi hK
    have hs1 := hi.fr.size
    have hb1 := lt_of_block hi.row
    gi_wp2
    refine hK _ _ ((KeepsOthers.alloc _ _).from _) (OWN.alloc _ hi) ⟨W.heap.size, _, by omega, heap_alloc_new W _, rfl⟩
  case body =>
    rintro lp pre x post a' W hx hi ⟨Bx, i, hB, hbx, rfl⟩
    obtain ⟨O2, v2, E2, hO2, T2, S2, P2⟩ := hi.tab
    have hok := (okB_append L pre (x :: post)).1 (by rw [← hx]; exact KB.out)
    obtain ⟨x1, x2⟩ := hok.2.1
    have CH := hide (tchange_any T2.tight S2 P2 x1 x2)
    have HI := hide hi
    have HT := hide T2
    have HO2 := hide hO2
    have cb := cell_at hi.box 0
    obtain ⟨a0, a1, a2, a3, a4, a5, a6, a7, a8, af⟩ := cells9 hbx
    clear hi T2 hO2 S2 P2 hok x1 x2 hx hbx
    gi_wp2_with (refine ⟨trivial, ?_⟩; gi_at_call 24; refine (callsIn_wide.2 CH.out).mono ?_; rintro e w' ⟨rfl, F, v3, E3, T3, S3, P3⟩)
    have no : ∀ k, Tg t km om v2 E2 k → O k ∨ w.heap.size + 1 + 1 ≤ k := fun k hk => HO2.out k (HT.out.tgO k hk)
    have n1 : ∀ k, w.heap.size ≤ k → k < w.heap.size + 1 + 1 → ¬ Tg t km om v2 E2 k := fun k h1 h2 hk => by
      rcases no k hk with e | e
      · have := KT.out k e; omega
      · omega
    have hw := lt_of_block HI.out.row
    have MF : MidT w w' t km om O p cap l (applyG L (pre ++ [x])) := by
      refine ⟨HI.out.fr.trans F (fun i hi e => ?_), F.keep HI.out.box (n1 _ (by omega) (by omega)), F.keep HI.out.row (n1 _ (by omega) (by omega)), HI.out.lst.fr F (fun b o e hk => ?_), _, v3, E3, fun k hk => ?_, T3, by rw [applyG_append]; exact S3, by rw [applyG_append]; exact P3⟩
      · rcases no i e with e | e
        · exact e
        · omega
      · obtain ⟨h1, h2⟩ := KN.out b o e
        rcases no b hk with e | e
        · exact h2 e
        · omega
      · rcases hk with hk | hk
        · exact no k hk
        · exact Or.inr (by omega)
    have KF := KeepsFrom.ofTab (B := V.heap.size) HT.out F (by omega) (by omega)
    clear a0 a1 a2 a3 a4 a5 a6 a7 a8 af cb CH T3 S3 P3 n1 no HT HI
    gi_wp2
    exact ⟨rfl, KF, MF⟩
  case done =>
    rintro D W hD hi hK
    have h2 := OWN.putObj (.deferred none) hi hD hK rfl
    gi_wp2
    refine ⟨by simp, .inl ⟨_, _, rfl, run_takeDeferred hK, ?_⟩⟩
    refine ⟨_, results_none rfl _ _ _, rfl, h2.fr, ?_⟩
    obtain ⟨O2, v2, E2, hO2, T2, S2, P2⟩ := h2.tab
    refine ⟨v2, E2, T2.wider (fun k hk => ?_) (gr_lt KT.out h2.fr.size), S2, P2⟩
    rcases hO2 k hk with e | e
    · exact Or.inl e
    · exact Or.inr ⟨by omega, T2.ends.lt k hk⟩
end Go.Proofs.YtpldkgollhbolaaGreat
