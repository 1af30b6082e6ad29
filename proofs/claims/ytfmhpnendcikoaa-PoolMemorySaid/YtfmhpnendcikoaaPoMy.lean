/-
  The walk of the law PoolMemory: it returns true. Conditions: the words are words of 64 bits.
-/
import Derived.Test.YtfmhpnendcikoaaPoPm
import Derived.Deep.DeepCutAuto
namespace Go.Proofs.Ytfmhpnendcikoaa
open Go.RowKit Go.Joins

/-- append of a list of addresses to a row of the call's own -/
theorem wpList_append_lstA {w : World} {ops : Array Oper} {rest : List Oper} {o : Oper} {a : Act} {Q : Exit → Act → World → Prop} (hgd : o.guard = none) (s x : Operand)
    (ho : o.op = .call { callee := .builtin .append, args := #[s, x], argTypes := #[25, 25] })
    (base : Nat) (v : Value) (hs : a.eval s = v) (hown : OwnA w base v []) (vx : Value) (l : List Nat) (hx : a.eval x = vx) (hl : LstA vx l w)
    (hn : l.length ≤ 1000000) (hbase : base ≤ w.heap.size)
    (h : ∀ v' w', OwnA w' base v' l → Below base w w' → wpList Try.prog ops Q rest (a.put o.dst v') w') : wpList Try.prog ops Q (o :: rest) a w := by
  obtain ⟨i0, hi, hz0, hz1, hz2⟩ := info_parts infoA
  have fin : ∀ v' w', w'.ownsRow base 35 2 v' (0 + l.length) (cellsA [] ++ cellsA l) → w.grownBy w' v.ownBlock → wpList Try.prog ops Q rest (a.put o.dst v') w' := by
    intro v' w' h1 h2
    refine h v' w' ?_ ((Below.refl _ _).grown h2 hbase (fun j hj => (hown.lt j hj).1))
    unfold OwnA
    simpa [cellsA] using h1
  have cellsOf : ∀ {b o : Nat}, RowA b o l w → ∀ (j : Nat) (u : Value), (cellsA l)[j]? = some u → w.cell? ((⟨b, o, none⟩ : Go.Addr).add j) = some u := by
    intro b o hr j u hu
    have hj : j < l.length * 2 := by
      have := (List.getElem?_eq_some_iff.1 hu).1
      rwa [cellsA_len] at this
    obtain ⟨y, hy⟩ := getA_some (show j / 2 < l.length by omega)
    have hc := cellsA_c hy (j % 2) (Nat.mod_lt _ (by omega))
    rw [show j / 2 * 2 + j % 2 = j by omega, hu] at hc
    obtain ⟨a0, a1⟩ := hr.2 _ y hy
    rw [add_at]
    rcases (show j % 2 = 0 ∨ j % 2 = 1 by omega) with e | e
    · rw [e] at hc; simp [cells2] at hc; subst hc; rw [show o + j = o + j / 2 * 2 by omega]; exact a0
    · rw [e] at hc; simp [cells2] at hc; subst hc; rw [show o + j = o + j / 2 * 2 + 1 by omega]; exact a1
  rcases hl with ⟨p, c, rfl, rfl, hpc, _⟩ | ⟨b, ofs, c, rfl, hr, _⟩
  · cases p with
    | none =>
      obtain rfl := hpc rfl
      refine wpList_append_own_none hgd s x 25 ho base 35 i0 2 Try.underlying25 hi v 0 (cellsA []) hs hown hx ?_
      exact h v w hown (Below.refl _ _)
    | some ad =>
      refine wpList_append_own w hgd s x 25 ho base 35 i0 (.agg #[.int .u64 0, .int .u64 0]) 2 16 Try.underlying25 hi hz0 hz1 hz2 rfl (by decide) v 0 (cellsA []) hs hown ad 0 c [] hx rfl (fun j u h => by simp at h) (fun u h => by simp at h) (by unfold maxLen; omega) (by omega) hbase ?_
      intro v2 w2 h1 h2 _
      exact fin v2 w2 (by simpa [cellsA] using h1) h2
  · refine wpList_append_own w hgd s x 25 ho base 35 i0 (.agg #[.int .u64 0, .int .u64 0]) 2 16 Try.underlying25 hi hz0 hz1 hz2 rfl (by decide) v 0 (cellsA []) hs hown ⟨b, ofs, none⟩ l.length c (cellsA l) hx (cellsA_len l) (cellsOf hr) (cellsA_one l) (by unfold maxLen; omega) (by omega) hbase ?_
    intro v2 w2 h1 h2 _
    exact fin v2 w2 h1 h2
/-- the law's two lists, with one element behind what was handed in -/
def HM0 (p : List Rg) (t : List Nat) (gm cm go co : Nat) (w : World) (W : World) : Prop := Below w.heap.size w W ∧
  W.ownsRow w.heap.size 40 4 (.slice (some ⟨gm, 0, none⟩) (p.length + 1) cm) (p.length + 1) (cellsR (p ++ [(71, 71)])) ∧
  W.ownsRow w.heap.size 35 2 (.slice (some ⟨go, 0, none⟩) (t.length + 1) co) (t.length + 1) (cellsA (t ++ [72]))
theorem HM0.step {p : List Rg} {t : List Nat} {gm cm go co : Nat} {w W W2 : World} (h : HM0 p t gm cm go co w W) (hb : Below W.heap.size W W2) : HM0 p t gm cm go co w W2 := ⟨chain h.1 hb, own_keep h.2.1 hb, own_keep h.2.2 hb⟩
theorem HM0.pools {p : List Rg} {t : List Nat} {gm cm go co : Nat} {w W : World} (h : HM0 p t gm cm go co w W) : Lst (.slice (some ⟨gm, 0, none⟩) p.length cm) p W := by
  have h1 : Own W w.heap.size (.slice (some ⟨gm, 0, none⟩) (p ++ [(71, 71)]).length cm) (p ++ [(71, 71)]) := by unfold Own; rw [List.length_append]; exact h.2.1
  have := lst_cut (own_lst h1) (f := p.length) (by simp)
  rwa [List.take_left] at this
theorem HM0.addrs {p : List Rg} {t : List Nat} {gm cm go co : Nat} {w W : World} (h : HM0 p t gm cm go co w W) : LstA (.slice (some ⟨go, 0, none⟩) t.length co) t W := by
  have h1 : OwnA W w.heap.size (.slice (some ⟨go, 0, none⟩) (t ++ [72]).length co) (t ++ [72]) := by unfold OwnA; rw [List.length_append]; exact h.2.2
  have := lstA_take (ownA_lst h1) (f := t.length) (by simp)
  rwa [List.take_left] at this
theorem HM0.capm {p : List Rg} {t : List Nat} {gm cm go co : Nat} {w W : World} (h : HM0 p t gm cm go co w W) : p.length + 1 ≤ cm := by
  rcases h.2.1.2 with ⟨h', _⟩ | ⟨_, _, _, h', _, _, h2, _⟩
  · simp at h'
  · simp only [Value.slice.injEq] at h'
    omega
theorem HM0.capo {p : List Rg} {t : List Nat} {gm cm go co : Nat} {w W : World} (h : HM0 p t gm cm go co w W) : t.length + 1 ≤ co := by
  rcases h.2.2.2 with ⟨h', _⟩ | ⟨_, _, _, h', _, _, h2, _⟩
  · simp at h'
  · simp only [Value.slice.injEq] at h'
    omega
theorem HM0.last {p : List Rg} {t : List Nat} {gm cm go co : Nat} {w W : World} (h : HM0 p t gm cm go co w W) : (W.cell? ⟨gm, p.length * 4, none⟩ = some (.int .u64 0) ∧ W.cell? ⟨gm, p.length * 4 + 1, none⟩ = some (.int .u64 71) ∧ W.cell? ⟨gm, p.length * 4 + 2, none⟩ = some (.int .u64 0) ∧ W.cell? ⟨gm, p.length * 4 + 3, none⟩ = some (.int .u64 71)) ∧
    W.cell? ⟨go, t.length * 2, none⟩ = some (.int .u64 0) ∧ W.cell? ⟨go, t.length * 2 + 1, none⟩ = some (.int .u64 72) := by
  refine ⟨own_at4 (k := p.length) (m := (71, 71)) h.2.1 (by simp) (by simp), ?_⟩
  have hx : (t ++ [72])[t.length]? = some 72 := by simp
  exact ⟨(h.2.2.cellAt (t.length * 2) (by omega)).trans (cellsA_at hx).1, (h.2.2.cellAt (t.length * 2 + 1) (by omega)).trans (cellsA_at hx).2⟩
/-- while a call goes on -/
def HMc (V : World) (p : List Rg) (t : List Nat) (gm cm go co : Nat) (w : World) (W : World) : Prop := Below V.heap.size V W ∧ HM0 p t gm cm go co w W
theorem HMc.step {V : World} {p : List Rg} {t : List Nat} {gm cm go co : Nat} {w W W2 : World} (h : HMc V p t gm cm go co w W) (hb : Below W.heap.size W W2) : HMc V p t gm cm go co w W2 := ⟨chain h.1 hb, h.2.step hb⟩
theorem HMc.mk0 {V : World} {p : List Rg} {t : List Nat} {gm cm go co : Nat} {w : World} (h : HM0 p t gm cm go co w V) : HMc V p t gm cm go co w { V with drawn := V.drawn + 1 } := ⟨(Below.refl _ _).drew, h.step (Below.refl _ _).drew⟩
/-- the law's lists beside what the two calls gave -/
def HM2 (p : List Rg) (t : List Nat) (gm cm go co : Nat) (w : World) (L : List Rg) (b1 b2 : Nat) (va vb : Value) (W : World) : Prop := HM0 p t gm cm go co w W ∧ Own W b1 va L ∧ Own W b2 vb L
theorem HM2.step {p : List Rg} {t : List Nat} {gm cm go co : Nat} {w : World} {L : List Rg} {b1 b2 : Nat} {va vb : Value} {W W2 : World} (h : HM2 p t gm cm go co w L b1 b2 va vb W) (hb : Below W.heap.size W W2) : HM2 p t gm cm go co w L b1 b2 va vb W2 := ⟨h.1.step hb, own_keep h.2.1 hb, own_keep h.2.2 hb⟩
theorem HM2.drew {p : List Rg} {t : List Nat} {gm cm go co : Nat} {w : World} {L : List Rg} {b1 b2 : Nat} {va vb : Value} {W : World} (h : HM2 p t gm cm go co w L b1 b2 va vb W) : HM2 p t gm cm go co w L b1 b2 va vb { W with drawn := W.drawn + 1 } := h.step (Below.refl _ _).drew
/-- two values' blocks are not one -/
def Apart (v u : Value) : Prop := ∀ i, v.ownBlock = some i → u.ownBlock ≠ some i
theorem apart_lt {W W' : World} {b1 b2 n m s1 s2 : Nat} {t1 t2 : TypeId} {v u : Value} {xs ys : List Value} (h : W.ownsRow b1 t1 s1 v n xs) (k : W'.ownsRow b2 t2 s2 u m ys) (hb : W.heap.size ≤ b2) : Apart v u := fun i e1 e2 => by
  have a := (h.lt i e1).2
  have b := (k.lt i e2).1
  omega
theorem own_other {W : World} {b n s : Nat} {t : TypeId} {v : Value} {xs : List Value} (h : W.ownsRow b t s v n xs) {g j : Nat} (hne : v.ownBlock ≠ some g) (u : Value) : (W.setCell ⟨g, j, none⟩ u).ownsRow b t s v n xs :=
  own_grow h (grow_cell1 W g j u) (fun k e c => hne (by rw [e, ← c])) (Nat.le_refl _)
theorem own_other4 {W : World} {b n s : Nat} {t : TypeId} {v : Value} {xs : List Value} (h : W.ownsRow b t s v n xs) {g : Nat} (hne : v.ownBlock ≠ some g) (j0 j1 j2 j3 : Nat) (u0 u1 u2 u3 : Value) :
    ((((W.setCell ⟨g, j0, none⟩ u0).setCell ⟨g, j1, none⟩ u1).setCell ⟨g, j2, none⟩ u2).setCell ⟨g, j3, none⟩ u3).ownsRow b t s v n xs := own_other (own_other (own_other (own_other h hne u0) hne u1) hne u2) hne u3
theorem Apart.symm {v u : Value} (h : Apart v u) : Apart u v := fun i e1 e2 => h i e2 e1
/-- the row that is written, and those that must stay -/
def HM3 (w : World) (n : Nat) (b0 b1 b2 b3 : Nat) (vx va vb vd : Value) (L : List Rg) (la : List Rg) (W : World) : Prop := Below w.heap.size w W ∧ (∃ lx : List Rg, lx.length = n ∧ Own W b0 vx lx) ∧ Own W b1 va la ∧ Own W b2 vb L ∧ Own W b3 vd L
theorem HM3.step {w : World} {n b0 b1 b2 b3 : Nat} {vx va vb vd : Value} {L la : List Rg} {W W2 : World} (h : HM3 w n b0 b1 b2 b3 vx va vb vd L la W) (hb : Below W.heap.size W W2) : HM3 w n b0 b1 b2 b3 vx va vb vd L la W2 := by
  obtain ⟨h1, ⟨lx, h2, h3⟩, h4, h5, h6⟩ := h
  exact ⟨chain h1 hb, ⟨lx, h2, own_keep h3 hb⟩, own_keep h4 hb, own_keep h5 hb, own_keep h6 hb⟩
/-- writing one element -/
theorem HM3.put {w : World} {n b0 b1 b2 b3 : Nat} {vx va vb vd : Value} {L la : List Rg} {W : World} (h : HM3 w n b0 b1 b2 b3 vx va vb vd L la W) (hb0 : w.heap.size ≤ b0) (ha : Apart vx va) (hb : Apart vx vb) (hd : Apart vx vd) {k : Nat} (hk : k < n) (x y : Nat) :
    ∃ g c, vx = .slice (some ⟨g, 0, none⟩) n c ∧ (∃ z0 z1 z2 z3, W.cell? ⟨g, k * 4, none⟩ = some z0 ∧ W.cell? ⟨g, k * 4 + 1, none⟩ = some z1 ∧ W.cell? ⟨g, k * 4 + 2, none⟩ = some z2 ∧ W.cell? ⟨g, k * 4 + 3, none⟩ = some z3) ∧
      (W.frozen? ⟨g, k * 4, none⟩ = false ∧ W.frozen? ⟨g, k * 4 + 1, none⟩ = false ∧ W.frozen? ⟨g, k * 4 + 2, none⟩ = false ∧ W.frozen? ⟨g, k * 4 + 3, none⟩ = false) ∧
      HM3 w n b0 b1 b2 b3 vx va vb vd L la ((((W.setCell ⟨g, k * 4, none⟩ (.int .u64 (hi x : Nat))).setCell ⟨g, k * 4 + 1, none⟩ (.int .u64 (lo x : Nat))).setCell ⟨g, k * 4 + 2, none⟩ (.int .u64 (hi y : Nat))).setCell ⟨g, k * 4 + 3, none⟩ (.int .u64 (lo y : Nat))) := by
  obtain ⟨h1, ⟨lx, h2, h3⟩, h4, h5, h6⟩ := h
  obtain ⟨g, c, rfl, hg, _⟩ := h3.form (by omega)
  obtain ⟨m, hm⟩ := get_some (show k < lx.length by omega)
  obtain ⟨a0, a1, a2, a3⟩ := own_at4 h3 hm rfl
  have hw : w.heap.size ≤ g := Nat.le_trans hb0 hg
  refine ⟨g, c, by rw [h2], ⟨_, _, _, _, a0, a1, a2, a3⟩, ⟨h3.frozenAt _, h3.frozenAt _, h3.frozenAt _, h3.frozenAt _⟩, (((h1.setCell hw _).setCell hw _).setCell hw _).setCell hw _, ⟨lx.set k (x, y), by rw [List.length_set]; exact h2, ?_⟩, ?_, ?_, ?_⟩
  · have := own_set4 h3 (j := k) (by omega) x y
    unfold Own
    rw [List.length_set]
    exact this
  · exact own_other4 h4 (ha g rfl) _ _ _ _ _ _ _ _
  · exact own_other4 h5 (hb g rfl) _ _ _ _ _ _ _ _
  · exact own_other4 h6 (hd g rfl) _ _ _ _ _ _ _ _
theorem own_keepB {W w2 : World} {base n size b : Nat} {e : TypeId} {v : Value} {xs : List Value} (h : W.ownsRow base e size v n xs) (hlt : ∀ k, v.ownBlock = some k → k < b) (hb : Below b W w2) : w2.ownsRow base e size v n xs := by
  refine ⟨h.1, ?_⟩
  rcases h.2 with hn | ⟨g, cap, cur, h1, h2, h3, h4⟩
  · exact Or.inl hn
  · exact Or.inr ⟨g, cap, cur, h1, h2, by rw [hb.block g (hlt g (by rw [h1]; rfl))]; exact h3, h4⟩
theorem m71 (w : World) : Calls Try.prog 20 #[.int .u64 71, .int .u64 71] w (Gives (.agg #[.int .u64 0, .int .u64 71, .int .u64 0, .int .u64 71]) w) := small_any 71 71 w
theorem m99 (w : World) : Calls Try.prog 20 #[.int .u64 9, .int .u64 9] w (Gives (.agg #[.int .u64 0, .int .u64 9, .int .u64 0, .int .u64 9]) w) := small_any 9 9 w
theorem m88 (w : World) : Calls Try.prog 20 #[.int .u64 8, .int .u64 8] w (Gives (.agg #[.int .u64 0, .int .u64 8, .int .u64 0, .int .u64 8]) w) := small_any 8 8 w
theorem build_facts {p : List Rg} {t : List Nat} (fp : FitL p) (ft : ∀ a ∈ t, Fits a) (hp : p.length ≤ 100) (ht : t.length ≤ 100) : ∃ (L : List Rg) (er : Int), buildR p t = (L, er) ∧ FitL L ∧ soundL L = true ∧ L.length ≤ 300 := by
  cases ho : okL p with
  | false => exact ⟨[], 1, by unfold buildR; rw [ho]; rfl, fit_nil, rfl, by simp⟩
  | true =>
    obtain ⟨j1, j2, j3, _⟩ := jn_spec (okL_iff.1 ho) fp
    obtain ⟨s1, s2, s3, _⟩ := free_spec j1 j2 ft
    exact ⟨freeS (jnL p) t, 0, by unfold buildR; rw [ho]; rfl, s2, sound_snd.2 s1, by omega⟩
set_option maxRecDepth 100000 in
set_option maxHeartbeats 8000000 in
theorem memory_any {vp vt : Value} {p : List Rg} {t : List Nat} (fp : FitL p) (ft : ∀ a ∈ t, Fits a) (w : World) (hv : Lst vp p w) (hu : LstA vt t w) :
    Calls Try.prog 6 #[vp, vt] w (Gives (.bool true) w) := by
  obtain ⟨i0, hif, hz0, hz1, hz2⟩ := info_parts infoR
  obtain ⟨iA, hiA, hy0, hy1, hy2⟩ := info_parts infoA
  have HV := hide (fun W (H : Below w.heap.size w W) => hv.step H)
  have HU := hide (fun W (H : Below w.heap.size w W) => hu.step H)
  have FT := hide ft
  have FP := hide fp
  obtain ⟨pp, pc, rfl⟩ := lst_len hv
  obtain ⟨q, c, rfl⟩ := lstA_len hu
  clear hv hu ft fp
  go_enter Try.func6, Try.ntmps6
  go_wp2_with fail
  refine (awake_any _).mono ?_
  rintro e w1 ⟨rfl, hb1⟩
  by_cases hp : 100 < p.length
  · have E : (100 : Int) < (p.length : Int) := by omega
    go_wp2
    go_ret
    exact ⟨rfl, hb1⟩
  by_cases ht : 100 < t.length
  · have E : (100 : Int) < (t.length : Int) := by omega
    go_wp2
    go_ret
    exact ⟨rfl, hb1⟩
  obtain ⟨L, er, hB, fL, sL, nL⟩ := build_facts FP.out FT.out (by omega) (by omega)
  have BU := hide (fun W v u (H : Lst v p W) (K : LstA u t W) => hB ▸ build_any FP.out FT.out (by omega) (by omega) W H K)
  have SL := hide sL
  clear hB FP FT sL
  go_wp2_with (at_make; refine wpList_make_own _ rfl _ _ 28 rfl w.heap.size 40 i0 (.agg #[.int .u64 0, .int .u64 0, .int .u64 0, .int .u64 0]) 4 Try.underlying28 hif hz0 hz1 _ _ _ (p.length + 1) rfl rfl (by omega) ?b2 ?b3 hb1.size ?_)
  case b2 => rw [hz2]; omega
  case b3 => unfold maxLen; omega
  intro w2 hown2 hgrow2
  have B2 : Below w.heap.size w w2 := hb1.grown hgrow2 hb1.size (fun k h => by cases h)
  have O2 : Own w2 w.heap.size (.slice (some ⟨w1.heap.size, 0, none⟩) 0 (p.length + 1)) [] := hown2
  have L2 := HV.out _ B2
  clear hown2 hgrow2 hb1
  go_wp2_with (at_builtin; refine wpList_append_lst rfl (.tmp 33) (.tmp 34) rfl w.heap.size _ [] rfl O2 _ p rfl L2 (by simp; omega) B2.size ?_; intro v3 w3 O3 B3 _; rw [List.nil_append] at O3; have B3' := B2.trans B3; clear O2 L2 B2 B3)
  refine (m71 _).mono ?_
  rintro e w4 ⟨rfl, hb4⟩
  have O4 := own_keep (own_keep O3 hb4) (below_alloc w4 (.cells #[.int .u64 0, .int .u64 71, .int .u64 0, .int .u64 71] 40))
  have B4 := chain (chain B3' hb4) (below_alloc w4 (.cells #[.int .u64 0, .int .u64 71, .int .u64 0, .int .u64 71] 40))
  have N4 : RowR w4.heap.size 0 [(71, 71)] (w4.alloc (.cells #[.int .u64 0, .int .u64 71, .int .u64 0, .int .u64 71] 40)) := row_one (four_new w4 (71, 71) 40)
  clear O3 B3' hb4
  go_wp2_with (first
    | (at_builtin; refine wpList_append_oneR rfl (.tmp 36) (.tmp 38) rfl w.heap.size _ p rfl O4 _ 1 (71, 71) rfl N4 (by omega) B4.size ?_; intro gm cm w5 O5 B5 _ _; have B5' := B4.trans B5; clear O4 N4 B4 B5)
    | (at_make; refine wpList_make_own _ rfl _ _ 25 rfl w5.heap.size 35 iA (.agg #[.int .u64 0, .int .u64 0]) 2 Try.underlying25 hiA hy0 hy1 _ _ _ (t.length + 1) rfl rfl (by omega) ?c2 ?c3 (Nat.le_refl _) ?_))
  case c2 => rw [hy2]; omega
  case c3 => unfold maxLen; omega
  intro w6 hown6 hgrow6
  have B6 : Below w.heap.size w w6 := B5'.grown hgrow6 B5'.size (fun k h => by cases h)
  have O6 : OwnA w6 w5.heap.size (.slice (some ⟨w5.heap.size, 0, none⟩) 0 (t.length + 1)) [] := hown6
  have lg : gm < w5.heap.size := (O5.lt gm rfl).2
  have O5x : w5.ownsRow w.heap.size 40 4 (.slice (some ⟨gm, 0, none⟩) (p.length + 1) cm) (p.length + 1) (cellsR (p ++ [(71, 71)])) := by
    unfold Own at O5
    rw [List.length_append] at O5
    exact O5
  have M6 := own_grow O5x hgrow6 (fun k h => by simp) (Nat.le_refl _)
  have bg := B5'.size
  have Z6 := hgrow6.size
  have L6 := HU.out _ B6
  clear hown6 hgrow6 B5' O5 O5x
  go_wp2_with (first
    | (at_builtin; refine wpList_append_lstA rfl (.tmp 45) (.tmp 46) rfl w5.heap.size _ rfl O6 _ t rfl L6 (by omega) Z6 ?_; intro v7 w7 O7 B7; have B7' := B6.trans (B7.mono bg); have M7 := own_keepB M6 (fun k e => by simp only [Value.ownBlock, Option.some.injEq] at e; omega) B7; have z7 := Nat.le_trans Z6 B7.size; have O7' := own_keep O7 (below_alloc w7 (.cells #[.int .u64 0, .int .u64 72] 35)); have N7 := own_lo (W := w7) (x := 72) (t := 35) (by omega) rfl; have Z7 : w5.heap.size ≤ (w7.alloc (.cells #[.int .u64 0, .int .u64 72] 35)).heap.size := (by simp; omega); clear O6 L6 B6 B7 M6 O7)
    | (at_builtin; go_loud (refine wpList_append_oneA rfl (.tmp 48) (.tmp 50) rfl w5.heap.size _ t rfl O7' _ 1 72 rfl N7 (by omega) Z7 ?_); go_loud (intro go co w8 O8 B8 _ _); go_loud (have H8 : HM0 p t gm cm go co w w8 := ⟨(chain B7' (below_alloc w7 (.cells #[.int .u64 0, .int .u64 72] 35))).trans (B8.mono bg), own_keepB (own_keep M7 (below_alloc w7 (.cells #[.int .u64 0, .int .u64 72] 35))) (fun k e => by simp only [Value.ownBlock, Option.some.injEq] at e; omega) B8, (by have := ownA_base O8 bg; unfold OwnA at this; rw [List.length_append] at this; exact this)⟩); go_loud (have KM : p.length + 1 ≤ cm := H8.capm; have KO : t.length + 1 ≤ co := H8.capo); have KM2 : p.length ≤ cm := (by omega); have KO2 : t.length ≤ co := (by omega); have KM3 : (p.length : Int) ≤ (cm : Int) := (by omega); have KO3 : (t.length : Int) ≤ (co : Int) := (by omega); go_loud (clear B7' O7' N7 Z7 O8 B8 M7)))
  have Z8 := hide H8.1.size
  refine wp_region_rel (HMc w8 p t gm cm go co w) [some 53, some 54, some 55, some 56, some 57, some 58, some 59, some 52, some 60, some 61, some 9, some 10] [fun yy _ => yy = .slice (some ⟨gm, 0, none⟩) (p.length + 1) cm, fun yy _ => yy = .int .i64 (p.length : Nat), fun yy _ => yy = .slice (some ⟨gm, 0, none⟩) p.length cm, fun yy _ => yy = .slice (some ⟨go, 0, none⟩) (t.length + 1) co, fun yy _ => yy = .int .i64 (t.length : Nat), fun yy _ => yy = .slice (some ⟨go, 0, none⟩) t.length co, fun yy W => ∃ v, yy = .tuple #[v, .int .i64 er] ∧ Own W w8.heap.size v L, fun yy W => ∃ v, yy = .tuple #[v, .int .i64 er] ∧ Own W w8.heap.size v L, fun yy W => Own W w8.heap.size yy L, fun yy _ => yy = .int .i64 er, fun yy W => Own W w8.heap.size yy L, fun yy _ => yy = .int .i64 er] 148 (by kernel_rfl) (by kernel_rfl) rfl rfl (HMc.mk0 H8) ?_ ?_
  · refine ⟨⟨fun _ _ _ h _ => h, fun a' W K hC hd hf hK => ?_⟩, ⟨fun _ _ _ h _ => h, fun a' W K hC hd hf hK => ?_⟩, ⟨fun _ _ _ h _ => h, fun a' W K hC hd hf hK => ?_⟩, ⟨fun _ _ _ h _ => h, fun a' W K hC hd hf hK => ?_⟩, ⟨fun _ _ _ h _ => h, fun a' W K hC hd hf hK => ?_⟩, ⟨fun _ _ _ h _ => h, fun a' W K hC hd hf hK => ?_⟩, ⟨fun _ _ _ ⟨v, h0, h1⟩ hb => ⟨v, h0, own_keep h1 hb⟩, fun a' W K hC hd hf hK => ?_⟩, ⟨fun _ _ _ ⟨v, h0, h1⟩ hb => ⟨v, h0, own_keep h1 hb⟩, fun a' W K hC hd hf hK => ?_⟩, ⟨fun _ _ _ h hb => own_keep h hb, fun a' W K hC hd hf hK => ?_⟩, ⟨fun _ _ _ h _ => h, fun a' W K hC hd hf hK => ?_⟩, ⟨fun _ _ _ h hb => own_keep h hb, fun a' W K hC hd hf hK => ?_⟩, ⟨fun _ _ _ h _ => h, fun a' W K hC hd hf hK => ?_⟩, trivial⟩
    · refine op_plain rfl ?_
      have f6 : a'.tmps[6]?.getD undef = .slice (some ⟨gm, 0, none⟩) (p.length + 1) cm := (hf.out 6 (by kernel_rfl)).trans (by simp)
      go_simp
      exact hK.out _ _ hC (Below.refl _ _) rfl
    · refine op_plain rfl ?_
      have f5 : a'.tmps[5]?.getD undef = .int .i64 (p.length : Nat) := (hf.out 5 (by kernel_rfl)).trans (by simp)
      go_simp
      exact hK.out _ _ hC (Below.refl _ _) rfl
    · refine op_plain rfl ?_
      have d53 : a'.tmps[53]?.getD undef = .slice (some ⟨gm, 0, none⟩) (p.length + 1) cm := hd.out 0 53 (by kernel_rfl) rfl
      have d54 : a'.tmps[54]?.getD undef = .int .i64 (p.length : Nat) := hd.out 1 54 (by kernel_rfl) rfl
      go_simp
      exact hK.out _ _ hC (Below.refl _ _) rfl
    · refine op_plain rfl ?_
      have f8 : a'.tmps[8]?.getD undef = .slice (some ⟨go, 0, none⟩) (t.length + 1) co := (hf.out 8 (by kernel_rfl)).trans (by simp)
      go_simp
      exact hK.out _ _ hC (Below.refl _ _) rfl
    · refine op_plain rfl ?_
      have f7 : a'.tmps[7]?.getD undef = .int .i64 (t.length : Nat) := (hf.out 7 (by kernel_rfl)).trans (by simp)
      go_simp
      exact hK.out _ _ hC (Below.refl _ _) rfl
    · refine op_plain rfl ?_
      have d56 : a'.tmps[56]?.getD undef = .slice (some ⟨go, 0, none⟩) (t.length + 1) co := hd.out 3 56 (by kernel_rfl) rfl
      have d57 : a'.tmps[57]?.getD undef = .int .i64 (t.length : Nat) := hd.out 4 57 (by kernel_rfl) rfl
      go_simp
      exact hK.out _ _ hC (Below.refl _ _) rfl
    · refine op_plain rfl ?_
      have d55 : a'.tmps[55]?.getD undef = .slice (some ⟨gm, 0, none⟩) p.length cm := hd.out 2 55 (by kernel_rfl) rfl
      have d58 : a'.tmps[58]?.getD undef = .slice (some ⟨go, 0, none⟩) t.length co := hd.out 5 58 (by kernel_rfl) rfl
      go_simp
      go_at_call 11
      refine (BU.out W _ _ (HM0.pools hC.2) (HM0.addrs hC.2)).mono ?_
      rintro e W2 ⟨v, rfl, hb2, hO⟩
      exact hK.out _ _ (HMc.step hC hb2) hb2 ⟨v, rfl, own_base hO hC.1.size⟩
    · refine op_plain rfl ?_
      have d59 := hd.out 6 59 (by kernel_rfl) rfl
      go_simp
      exact hK.out _ _ hC (Below.refl _ _) d59
    · refine op_plain rfl ?_
      have d52 := hd.out 7 52 (by kernel_rfl) rfl
      obtain ⟨v, e9, o9⟩ := d52
      go_simp
      exact hK.out _ _ hC (Below.refl _ _) o9
    · refine op_plain rfl ?_
      have d52 := hd.out 7 52 (by kernel_rfl) rfl
      obtain ⟨v, e9, o9⟩ := d52
      go_simp
      exact hK.out _ _ hC (Below.refl _ _) rfl
    · refine op_plain rfl ?_
      have d60 := hd.out 8 60 (by kernel_rfl) rfl
      go_simp
      exact hK.out _ _ hC (Below.refl _ _) d60
    · refine op_plain rfl ?_
      have d61 : a'.tmps[61]?.getD undef = .int .i64 er := hd.out 9 61 (by kernel_rfl) rfl
      go_simp
      exact hK.out _ _ hC (Below.refl _ _) rfl
  · intro vs W13 HC13 hR
    have a0 : vs 0 = .slice (some ⟨gm, 0, none⟩) (p.length + 1) cm := hR.out 0 (by decide)
    have a1 : vs 1 = .int .i64 (p.length : Nat) := hR.out 1 (by decide)
    have a2 : vs 2 = .slice (some ⟨gm, 0, none⟩) p.length cm := hR.out 2 (by decide)
    have a3 : vs 3 = .slice (some ⟨go, 0, none⟩) (t.length + 1) co := hR.out 3 (by decide)
    have a4 : vs 4 = .int .i64 (t.length : Nat) := hR.out 4 (by decide)
    have a5 : vs 5 = .slice (some ⟨go, 0, none⟩) t.length co := hR.out 5 (by decide)
    have ra6 := hR.out 6 (by decide)
    generalize ha6 : vs 6 = a6 at *
    change (fun yy W => ∃ v, yy = .tuple #[v, .int .i64 er] ∧ Own W w8.heap.size v L) a6 W13 at ra6
    have ra7 := hR.out 7 (by decide)
    generalize ha7 : vs 7 = a7 at *
    change (fun yy W => ∃ v, yy = .tuple #[v, .int .i64 er] ∧ Own W w8.heap.size v L) a7 W13 at ra7
    have ra8 := hR.out 8 (by decide)
    generalize ha8 : vs 8 = a8 at *
    change (fun yy W => Own W w8.heap.size yy L) a8 W13 at ra8
    have a9 : vs 9 = .int .i64 er := hR.out 9 (by decide)
    have ra10 := hR.out 10 (by decide)
    generalize ha10 : vs 10 = a10 at *
    change (fun yy W => Own W w8.heap.size yy L) a10 W13 at ra10
    have a11 : vs 11 = .int .i64 er := hR.out 11 (by decide)
    simp only [fillF, Act.put, List.setIfInBounds_toArray, List.set_cons_zero, List.set_cons_succ, Nat.reduceAdd, a0, a1, a2, a3, a4, a5, ha6, ha7, ha8, a9, ha10, a11]
    clear hR a0 a1 a2 a3 a4 a5 ha6 ha7 ha8 a9 ha10 a11
    have H9 := HC13.2
    have A13 := hide HC13.1.size
    clear ra6 ra7 ra8 HC13 H8
    go_wp2_with fail
    refine wp_region_rel (HMc W13 p t gm cm go co w) [some 63, some 64, some 65, some 66, some 67, some 68, some 69, some 62, some 70, some 71, some 11, some 12] [fun yy _ => yy = .slice (some ⟨gm, 0, none⟩) (p.length + 1) cm, fun yy _ => yy = .int .i64 (p.length : Nat), fun yy _ => yy = .slice (some ⟨gm, 0, none⟩) p.length cm, fun yy _ => yy = .slice (some ⟨go, 0, none⟩) (t.length + 1) co, fun yy _ => yy = .int .i64 (t.length : Nat), fun yy _ => yy = .slice (some ⟨go, 0, none⟩) t.length co, fun yy W => ∃ v, yy = .tuple #[v, .int .i64 er] ∧ Own W W13.heap.size v L, fun yy W => ∃ v, yy = .tuple #[v, .int .i64 er] ∧ Own W W13.heap.size v L, fun yy W => Own W W13.heap.size yy L, fun yy _ => yy = .int .i64 er, fun yy W => Own W W13.heap.size yy L, fun yy _ => yy = .int .i64 er] 148 (by kernel_rfl) (by kernel_rfl) rfl rfl (HMc.mk0 H9) ?_ ?_
    · refine ⟨⟨fun _ _ _ h _ => h, fun a' W K hC hd hf hK => ?_⟩, ⟨fun _ _ _ h _ => h, fun a' W K hC hd hf hK => ?_⟩, ⟨fun _ _ _ h _ => h, fun a' W K hC hd hf hK => ?_⟩, ⟨fun _ _ _ h _ => h, fun a' W K hC hd hf hK => ?_⟩, ⟨fun _ _ _ h _ => h, fun a' W K hC hd hf hK => ?_⟩, ⟨fun _ _ _ h _ => h, fun a' W K hC hd hf hK => ?_⟩, ⟨fun _ _ _ ⟨v, h0, h1⟩ hb => ⟨v, h0, own_keep h1 hb⟩, fun a' W K hC hd hf hK => ?_⟩, ⟨fun _ _ _ ⟨v, h0, h1⟩ hb => ⟨v, h0, own_keep h1 hb⟩, fun a' W K hC hd hf hK => ?_⟩, ⟨fun _ _ _ h hb => own_keep h hb, fun a' W K hC hd hf hK => ?_⟩, ⟨fun _ _ _ h _ => h, fun a' W K hC hd hf hK => ?_⟩, ⟨fun _ _ _ h hb => own_keep h hb, fun a' W K hC hd hf hK => ?_⟩, ⟨fun _ _ _ h _ => h, fun a' W K hC hd hf hK => ?_⟩, trivial⟩
      · refine op_plain rfl ?_
        have f6 : a'.tmps[6]?.getD undef = .slice (some ⟨gm, 0, none⟩) (p.length + 1) cm := (hf.out 6 (by kernel_rfl)).trans (by simp)
        go_simp
        exact hK.out _ _ hC (Below.refl _ _) rfl
      · refine op_plain rfl ?_
        have f5 : a'.tmps[5]?.getD undef = .int .i64 (p.length : Nat) := (hf.out 5 (by kernel_rfl)).trans (by simp)
        go_simp
        exact hK.out _ _ hC (Below.refl _ _) rfl
      · refine op_plain rfl ?_
        have d63 : a'.tmps[63]?.getD undef = .slice (some ⟨gm, 0, none⟩) (p.length + 1) cm := hd.out 0 63 (by kernel_rfl) rfl
        have d64 : a'.tmps[64]?.getD undef = .int .i64 (p.length : Nat) := hd.out 1 64 (by kernel_rfl) rfl
        go_simp
        exact hK.out _ _ hC (Below.refl _ _) rfl
      · refine op_plain rfl ?_
        have f8 : a'.tmps[8]?.getD undef = .slice (some ⟨go, 0, none⟩) (t.length + 1) co := (hf.out 8 (by kernel_rfl)).trans (by simp)
        go_simp
        exact hK.out _ _ hC (Below.refl _ _) rfl
      · refine op_plain rfl ?_
        have f7 : a'.tmps[7]?.getD undef = .int .i64 (t.length : Nat) := (hf.out 7 (by kernel_rfl)).trans (by simp)
        go_simp
        exact hK.out _ _ hC (Below.refl _ _) rfl
      · refine op_plain rfl ?_
        have d66 : a'.tmps[66]?.getD undef = .slice (some ⟨go, 0, none⟩) (t.length + 1) co := hd.out 3 66 (by kernel_rfl) rfl
        have d67 : a'.tmps[67]?.getD undef = .int .i64 (t.length : Nat) := hd.out 4 67 (by kernel_rfl) rfl
        go_simp
        exact hK.out _ _ hC (Below.refl _ _) rfl
      · refine op_plain rfl ?_
        have d65 : a'.tmps[65]?.getD undef = .slice (some ⟨gm, 0, none⟩) p.length cm := hd.out 2 65 (by kernel_rfl) rfl
        have d68 : a'.tmps[68]?.getD undef = .slice (some ⟨go, 0, none⟩) t.length co := hd.out 5 68 (by kernel_rfl) rfl
        go_simp
        go_at_call 11
        refine (BU.out W _ _ (HM0.pools hC.2) (HM0.addrs hC.2)).mono ?_
        rintro e W2 ⟨v, rfl, hb2, hO⟩
        exact hK.out _ _ (HMc.step hC hb2) hb2 ⟨v, rfl, own_base hO hC.1.size⟩
      · refine op_plain rfl ?_
        have d69 := hd.out 6 69 (by kernel_rfl) rfl
        go_simp
        exact hK.out _ _ hC (Below.refl _ _) d69
      · refine op_plain rfl ?_
        have d62 := hd.out 7 62 (by kernel_rfl) rfl
        obtain ⟨v, e9, o9⟩ := d62
        go_simp
        exact hK.out _ _ hC (Below.refl _ _) o9
      · refine op_plain rfl ?_
        have d62 := hd.out 7 62 (by kernel_rfl) rfl
        obtain ⟨v, e9, o9⟩ := d62
        go_simp
        exact hK.out _ _ hC (Below.refl _ _) rfl
      · refine op_plain rfl ?_
        have d70 := hd.out 8 70 (by kernel_rfl) rfl
        go_simp
        exact hK.out _ _ hC (Below.refl _ _) d70
      · refine op_plain rfl ?_
        have d71 : a'.tmps[71]?.getD undef = .int .i64 er := hd.out 9 71 (by kernel_rfl) rfl
        go_simp
        exact hK.out _ _ hC (Below.refl _ _) rfl
    · intro vs W14 HC14 hR
      have b0 : vs 0 = .slice (some ⟨gm, 0, none⟩) (p.length + 1) cm := hR.out 0 (by decide)
      have b1 : vs 1 = .int .i64 (p.length : Nat) := hR.out 1 (by decide)
      have b2 : vs 2 = .slice (some ⟨gm, 0, none⟩) p.length cm := hR.out 2 (by decide)
      have b3 : vs 3 = .slice (some ⟨go, 0, none⟩) (t.length + 1) co := hR.out 3 (by decide)
      have b4 : vs 4 = .int .i64 (t.length : Nat) := hR.out 4 (by decide)
      have b5 : vs 5 = .slice (some ⟨go, 0, none⟩) t.length co := hR.out 5 (by decide)
      have rb6 := hR.out 6 (by decide)
      generalize hb6 : vs 6 = b6 at *
      change (fun yy W => ∃ v, yy = .tuple #[v, .int .i64 er] ∧ Own W W13.heap.size v L) b6 W14 at rb6
      have rb7 := hR.out 7 (by decide)
      generalize hb7 : vs 7 = b7 at *
      change (fun yy W => ∃ v, yy = .tuple #[v, .int .i64 er] ∧ Own W W13.heap.size v L) b7 W14 at rb7
      have rb8 := hR.out 8 (by decide)
      generalize hb8 : vs 8 = b8 at *
      change (fun yy W => Own W W13.heap.size yy L) b8 W14 at rb8
      have b9 : vs 9 = .int .i64 er := hR.out 9 (by decide)
      have rb10 := hR.out 10 (by decide)
      generalize hb10 : vs 10 = b10 at *
      change (fun yy W => Own W W13.heap.size yy L) b10 W14 at rb10
      have b11 : vs 11 = .int .i64 er := hR.out 11 (by decide)
      simp only [fillF, Act.put, List.setIfInBounds_toArray, List.set_cons_zero, List.set_cons_succ, Nat.reduceAdd, b0, b1, b2, b3, b4, b5, hb6, hb7, hb8, b9, hb10, b11]
      clear hR b0 b1 b2 b3 b4 b5 hb6 hb7 hb8 b9 hb10 b11
      have H10 : HM2 p t gm cm go co w L w8.heap.size W13.heap.size a10 b10 W14 := ⟨HC14.2, own_keep ra10 HC14.1, rb10⟩
      have SA := hide (apart_lt ra10 rb10 (Nat.le_refl _))
      have BL := hide (fun W (H : HM2 p t gm cm go co w L w8.heap.size W13.heap.size a10 b10 W) => via (same_any (by omega) W (own_lst H.2.1) (own_lst H.2.2)) (v' := .bool true) (by simp))
      have BM := hide (fun W (H : HM2 p t gm cm go co w L w8.heap.size W13.heap.size a10 b10 W) => via (same_any (by omega) W H.1.pools (HV.out W H.1.1)) (v' := .bool true) (by simp))
      have BO := hide (fun W (H : HM2 p t gm cm go co w L w8.heap.size W13.heap.size a10 b10 W) => via (list_any (by omega) W H.1.addrs (HU.out W H.1.1)) (v' := .bool true) (by simp))
      have Z13 := hide (Nat.le_trans A13.out (Nat.le_refl W13.heap.size))
      have PL1 : (p.length : Int) < (p.length : Int) + 1 := by omega
      have TL1 : (t.length : Int) < (t.length : Int) + 1 := by omega
      clear rb6 rb7 rb8 rb10 ra10 HC14 H9 BU
      go_wp2_with fail
      refine wp_region_quiet (C := HM2 p t gm cm go co w L w8.heap.size W13.heap.size a10 b10) (by kernel_rfl) (by kernel_rfl) H10.drew (wpQuiet_step (fun K0 hK0 => ?_))
      go_simp
      first | (with_reducible refine hK0 _ (wpQuiet_step (fun K1 hK1 => ?_))) | (with_reducible refine ⟨_, fun _ _ => rfl, hK0 _ (wpQuiet_step (fun K1 hK1 => ?_))⟩) | (rw [if_neg (by intro e; cases e)]; with_reducible refine hK0 _ (wpQuiet_step (fun K1 hK1 => ?_)))
      clear hK0 K0
      go_simp
      first | (with_reducible refine hK1 _ (wpQuiet_step (fun K0 hK0 => ?_))) | (with_reducible refine ⟨_, fun _ _ => rfl, hK1 _ (wpQuiet_step (fun K0 hK0 => ?_))⟩) | (rw [if_neg (by intro e; cases e)]; with_reducible refine hK1 _ (wpQuiet_step (fun K0 hK0 => ?_)))
      clear hK1 K1
      go_simp
      first | (with_reducible refine hK0 _ (wpQuiet_step (fun K1 hK1 => ?_))) | (with_reducible refine ⟨_, fun _ _ => rfl, hK0 _ (wpQuiet_step (fun K1 hK1 => ?_))⟩) | (rw [if_neg (by intro e; cases e)]; with_reducible refine hK0 _ (wpQuiet_step (fun K1 hK1 => ?_)))
      clear hK0 K0
      go_simp
      first | (with_reducible refine hK1 _ (wpQuiet_step (fun K0 hK0 => ?_))) | (with_reducible refine ⟨_, fun _ _ => rfl, hK1 _ (wpQuiet_step (fun K0 hK0 => ?_))⟩) | (rw [if_neg (by intro e; cases e)]; with_reducible refine hK1 _ (wpQuiet_step (fun K0 hK0 => ?_)))
      clear hK1 K1
      go_simp
      first | (with_reducible refine hK0 _ (wpQuiet_step (fun K1 hK1 => ?_))) | (with_reducible refine ⟨_, fun _ _ => rfl, hK0 _ (wpQuiet_step (fun K1 hK1 => ?_))⟩) | (rw [if_neg (by intro e; cases e)]; with_reducible refine hK0 _ (wpQuiet_step (fun K1 hK1 => ?_)))
      clear hK0 K0
      go_simp
      first | (with_reducible refine hK1 _ (wpQuiet_step (fun K0 hK0 => ?_))) | (with_reducible refine ⟨_, fun _ _ => rfl, hK1 _ (wpQuiet_step (fun K0 hK0 => ?_))⟩) | (rw [if_neg (by intro e; cases e)]; with_reducible refine hK1 _ (wpQuiet_step (fun K0 hK0 => ?_)))
      clear hK1 K1
      go_simp
      refine ⟨.bool true, fun W hW => ?_, hK0 _ (wpQuiet_step (fun K1 hK1 => ?_))⟩
      · exact (BL.out W hW).mono fun e w2 ⟨he, hb⟩ => ⟨he, HM2.step hW hb⟩
      clear hK0 K0
      go_simp
      first | (with_reducible refine hK1 _ (wpQuiet_step (fun K0 hK0 => ?_))) | (with_reducible refine ⟨_, fun _ _ => rfl, hK1 _ (wpQuiet_step (fun K0 hK0 => ?_))⟩) | (rw [if_neg (by intro e; cases e)]; with_reducible refine hK1 _ (wpQuiet_step (fun K0 hK0 => ?_)))
      clear hK1 K1
      go_simp
      first | (with_reducible refine hK0 _ (wpQuiet_step (fun K1 hK1 => ?_))) | (with_reducible refine ⟨_, fun _ _ => rfl, hK0 _ (wpQuiet_step (fun K1 hK1 => ?_))⟩) | (rw [if_neg (by intro e; cases e)]; with_reducible refine hK0 _ (wpQuiet_step (fun K1 hK1 => ?_)))
      clear hK0 K0
      go_simp
      first | (with_reducible refine hK1 _ (wpQuiet_step (fun K0 hK0 => ?_))) | (with_reducible refine ⟨_, fun _ _ => rfl, hK1 _ (wpQuiet_step (fun K0 hK0 => ?_))⟩) | (rw [if_neg (by intro e; cases e)]; with_reducible refine hK1 _ (wpQuiet_step (fun K0 hK0 => ?_)))
      clear hK1 K1
      go_simp
      first | (with_reducible refine hK0 _ (wpQuiet_step (fun K1 hK1 => ?_))) | (with_reducible refine ⟨_, fun _ _ => rfl, hK0 _ (wpQuiet_step (fun K1 hK1 => ?_))⟩) | (rw [if_neg (by intro e; cases e)]; with_reducible refine hK0 _ (wpQuiet_step (fun K1 hK1 => ?_)))
      clear hK0 K0
      go_simp
      first | (with_reducible refine hK1 _ (wpQuiet_step (fun K0 hK0 => ?_))) | (with_reducible refine ⟨_, fun _ _ => rfl, hK1 _ (wpQuiet_step (fun K0 hK0 => ?_))⟩) | (rw [if_neg (by intro e; cases e)]; with_reducible refine hK1 _ (wpQuiet_step (fun K0 hK0 => ?_)))
      clear hK1 K1
      go_simp
      first | (with_reducible refine hK0 _ (wpQuiet_step (fun K1 hK1 => ?_))) | (with_reducible refine ⟨_, fun _ _ => rfl, hK0 _ (wpQuiet_step (fun K1 hK1 => ?_))⟩) | (rw [if_neg (by intro e; cases e)]; with_reducible refine hK0 _ (wpQuiet_step (fun K1 hK1 => ?_)))
      clear hK0 K0
      go_simp
      first | (with_reducible refine hK1 _ (wpQuiet_step (fun K0 hK0 => ?_))) | (with_reducible refine ⟨_, fun _ _ => rfl, hK1 _ (wpQuiet_step (fun K0 hK0 => ?_))⟩) | (rw [if_neg (by intro e; cases e)]; with_reducible refine hK1 _ (wpQuiet_step (fun K0 hK0 => ?_)))
      clear hK1 K1
      go_simp
      refine ⟨.bool true, fun W hW => ?_, hK0 _ (wpQuiet_step (fun K1 hK1 => ?_))⟩
      · exact (BM.out W hW).mono fun e w2 ⟨he, hb⟩ => ⟨he, HM2.step hW hb⟩
      clear hK0 K0
      go_simp
      first | (with_reducible refine hK1 _ (wpQuiet_step (fun K0 hK0 => ?_))) | (with_reducible refine ⟨_, fun _ _ => rfl, hK1 _ (wpQuiet_step (fun K0 hK0 => ?_))⟩) | (rw [if_neg (by intro e; cases e)]; with_reducible refine hK1 _ (wpQuiet_step (fun K0 hK0 => ?_)))
      clear hK1 K1
      go_simp
      first | (with_reducible refine hK0 _ (wpQuiet_step (fun K1 hK1 => ?_))) | (with_reducible refine ⟨_, fun _ _ => rfl, hK0 _ (wpQuiet_step (fun K1 hK1 => ?_))⟩) | (rw [if_neg (by intro e; cases e)]; with_reducible refine hK0 _ (wpQuiet_step (fun K1 hK1 => ?_)))
      clear hK0 K0
      go_simp
      first | (with_reducible refine hK1 _ (wpQuiet_step (fun K0 hK0 => ?_))) | (with_reducible refine ⟨_, fun _ _ => rfl, hK1 _ (wpQuiet_step (fun K0 hK0 => ?_))⟩) | (rw [if_neg (by intro e; cases e)]; with_reducible refine hK1 _ (wpQuiet_step (fun K0 hK0 => ?_)))
      clear hK1 K1
      go_simp
      first | (with_reducible refine hK0 _ (wpQuiet_step (fun K1 hK1 => ?_))) | (with_reducible refine ⟨_, fun _ _ => rfl, hK0 _ (wpQuiet_step (fun K1 hK1 => ?_))⟩) | (rw [if_neg (by intro e; cases e)]; with_reducible refine hK0 _ (wpQuiet_step (fun K1 hK1 => ?_)))
      clear hK0 K0
      go_simp
      first | (with_reducible refine hK1 _ (wpQuiet_step (fun K0 hK0 => ?_))) | (with_reducible refine ⟨_, fun _ _ => rfl, hK1 _ (wpQuiet_step (fun K0 hK0 => ?_))⟩) | (rw [if_neg (by intro e; cases e)]; with_reducible refine hK1 _ (wpQuiet_step (fun K0 hK0 => ?_)))
      clear hK1 K1
      go_simp
      first | (with_reducible refine hK0 _ (wpQuiet_step (fun K1 hK1 => ?_))) | (with_reducible refine ⟨_, fun _ _ => rfl, hK0 _ (wpQuiet_step (fun K1 hK1 => ?_))⟩) | (rw [if_neg (by intro e; cases e)]; with_reducible refine hK0 _ (wpQuiet_step (fun K1 hK1 => ?_)))
      clear hK0 K0
      go_simp
      first | (with_reducible refine hK1 _ (wpQuiet_step (fun K0 hK0 => ?_))) | (with_reducible refine ⟨_, fun _ _ => rfl, hK1 _ (wpQuiet_step (fun K0 hK0 => ?_))⟩) | (rw [if_neg (by intro e; cases e)]; with_reducible refine hK1 _ (wpQuiet_step (fun K0 hK0 => ?_)))
      clear hK1 K1
      go_simp
      refine ⟨.bool true, fun W hW => ?_, hK0 _ (wpQuiet_step (fun K1 hK1 => ?_))⟩
      · exact (BO.out W hW).mono fun e w2 ⟨he, hb⟩ => ⟨he, HM2.step hW hb⟩
      clear hK0 K0
      go_simp
      first | (with_reducible refine hK1 _ (wpQuiet_step (fun K0 hK0 => ?_))) | (with_reducible refine ⟨_, fun _ _ => rfl, hK1 _ (wpQuiet_step (fun K0 hK0 => ?_))⟩) | (rw [if_neg (by intro e; cases e)]; with_reducible refine hK1 _ (wpQuiet_step (fun K0 hK0 => ?_)))
      clear hK1 K1
      go_simp
      first | (with_reducible refine hK0 _ (wpQuiet_step (fun K1 hK1 => ?_))) | (with_reducible refine ⟨_, fun _ _ => rfl, hK0 _ (wpQuiet_step (fun K1 hK1 => ?_))⟩) | (rw [if_neg (by intro e; cases e)]; with_reducible refine hK0 _ (wpQuiet_step (fun K1 hK1 => ?_)))
      clear hK0 K0
      go_simp
      first | (with_reducible refine hK1 _ (wpQuiet_step (fun K0 hK0 => ?_))) | (with_reducible refine ⟨_, fun _ _ => rfl, hK1 _ (wpQuiet_step (fun K0 hK0 => ?_))⟩) | (rw [if_neg (by intro e; cases e)]; with_reducible refine hK1 _ (wpQuiet_step (fun K0 hK0 => ?_)))
      clear hK1 K1
      go_simp
      first | (with_reducible refine hK0 _ (wpQuiet_step (fun K1 hK1 => ?_))) | (with_reducible refine ⟨_, fun _ _ => rfl, hK0 _ (wpQuiet_step (fun K1 hK1 => ?_))⟩) | (rw [if_neg (by intro e; cases e)]; with_reducible refine hK0 _ (wpQuiet_step (fun K1 hK1 => ?_)))
      clear hK0 K0
      go_simp
      first | (with_reducible refine hK1 _ (wpQuiet_step (fun K0 hK0 => ?_))) | (with_reducible refine ⟨_, fun _ _ => rfl, hK1 _ (wpQuiet_step (fun K0 hK0 => ?_))⟩) | (rw [if_neg (by intro e; cases e)]; with_reducible refine hK1 _ (wpQuiet_step (fun K0 hK0 => ?_)))
      clear hK1 K1
      go_simp
      first | (with_reducible refine hK0 _ (wpQuiet_step (fun K1 hK1 => ?_))) | (with_reducible refine ⟨_, fun _ _ => rfl, hK0 _ (wpQuiet_step (fun K1 hK1 => ?_))⟩) | (rw [if_neg (by intro e; cases e)]; with_reducible refine hK0 _ (wpQuiet_step (fun K1 hK1 => ?_)))
      clear hK0 K0
      go_simp
      refine ⟨.agg #[.int .u64 0, .int .u64 71, .int .u64 0, .int .u64 71], fun W hW => ?_, hK1 _ (wpQuiet_step (fun K0 hK0 => ?_))⟩
      · ((obtain ⟨⟨u0, u1, u2, u3⟩, _⟩ := hW.1.last; simp [go_sem, u0, u1, u2, u3]))
      clear hK1 K1
      go_simp
      refine ⟨.agg #[.int .u64 0, .int .u64 71, .int .u64 0, .int .u64 71], fun W hW => ?_, hK0 _ (wpQuiet_step (fun K1 hK1 => ?_))⟩
      · exact (m71 W).mono fun e w2 ⟨he, hb⟩ => ⟨he, HM2.step hW hb⟩
      clear hK0 K0
      go_simp
      first | (with_reducible refine hK1 _ (wpQuiet_step (fun K0 hK0 => ?_))) | (with_reducible refine ⟨_, fun _ _ => rfl, hK1 _ (wpQuiet_step (fun K0 hK0 => ?_))⟩) | (rw [if_neg (by intro e; cases e)]; with_reducible refine hK1 _ (wpQuiet_step (fun K0 hK0 => ?_)))
      clear hK1 K1
      go_simp
      first | (with_reducible refine hK0 _ (wpQuiet_step (fun K1 hK1 => ?_))) | (with_reducible refine ⟨_, fun _ _ => rfl, hK0 _ (wpQuiet_step (fun K1 hK1 => ?_))⟩) | (rw [if_neg (by intro e; cases e)]; with_reducible refine hK0 _ (wpQuiet_step (fun K1 hK1 => ?_)))
      clear hK0 K0
      go_simp
      first | (with_reducible refine hK1 _ (wpQuiet_step (fun K0 hK0 => ?_))) | (with_reducible refine ⟨_, fun _ _ => rfl, hK1 _ (wpQuiet_step (fun K0 hK0 => ?_))⟩) | (rw [if_neg (by intro e; cases e)]; with_reducible refine hK1 _ (wpQuiet_step (fun K0 hK0 => ?_)))
      clear hK1 K1
      go_simp
      first | (with_reducible refine hK0 _ (wpQuiet_step (fun K1 hK1 => ?_))) | (with_reducible refine ⟨_, fun _ _ => rfl, hK0 _ (wpQuiet_step (fun K1 hK1 => ?_))⟩) | (rw [if_neg (by intro e; cases e)]; with_reducible refine hK0 _ (wpQuiet_step (fun K1 hK1 => ?_)))
      clear hK0 K0
      go_simp
      first | (with_reducible refine hK1 _ (wpQuiet_step (fun K0 hK0 => ?_))) | (with_reducible refine ⟨_, fun _ _ => rfl, hK1 _ (wpQuiet_step (fun K0 hK0 => ?_))⟩) | (rw [if_neg (by intro e; cases e)]; with_reducible refine hK1 _ (wpQuiet_step (fun K0 hK0 => ?_)))
      clear hK1 K1
      go_simp
      first | (with_reducible refine hK0 _ (wpQuiet_step (fun K1 hK1 => ?_))) | (with_reducible refine ⟨_, fun _ _ => rfl, hK0 _ (wpQuiet_step (fun K1 hK1 => ?_))⟩) | (rw [if_neg (by intro e; cases e)]; with_reducible refine hK0 _ (wpQuiet_step (fun K1 hK1 => ?_)))
      clear hK0 K0
      go_simp
      refine ⟨.agg #[.int .u64 0, .int .u64 72], fun W hW => ?_, hK1 _ (wpQuiet_step (fun K0 hK0 => ?_))⟩
      · ((obtain ⟨_, u0, u1⟩ := hW.1.last; simp [go_sem, u0, u1]))
      clear hK1 K1
      go_simp
      first | (with_reducible refine hK0 _ (wpQuiet_step (fun K1 hK1 => ?_))) | (with_reducible refine ⟨_, fun _ _ => rfl, hK0 _ (wpQuiet_step (fun K1 hK1 => ?_))⟩) | (rw [if_neg (by intro e; cases e)]; with_reducible refine hK0 _ (wpQuiet_step (fun K1 hK1 => ?_)))
      clear hK0 K0
      go_simp
      first | (with_reducible refine hK1 _ (wpQuiet_step (fun K0 hK0 => ?_))) | (with_reducible refine ⟨_, fun _ _ => rfl, hK1 _ (wpQuiet_step (fun K0 hK0 => ?_))⟩) | (rw [if_neg (by intro e; cases e)]; with_reducible refine hK1 _ (wpQuiet_step (fun K0 hK0 => ?_)))
      clear hK1 K1
      go_simp
      first | (with_reducible refine hK0 _ (wpQuiet_nil ?_)) | (with_reducible refine ⟨_, fun _ _ => rfl, hK0 _ (wpQuiet_nil ?_)⟩) | (rw [if_neg (by intro e; cases e)]; with_reducible refine hK0 _ (wpQuiet_nil ?_))
      clear hK0 K0
      intro w15 H15
      obtain ⟨Cc, hCc⟩ : ∃ Cc : List Rg, Cc = freeS L [] := ⟨_, rfl⟩
      have FR := hide (fun W v (H : Lst v L W) => (show Calls Try.prog 12 #[v, .slice none 0 0] W (GivesE (Cc, 0) W) from by
        have h1 := free_any (vs := v) (vt := .slice none 0 0) (s := L) (t := []) fL (fun a h => by cases h) (by omega) (by simp) W H (Or.inl ⟨none, 0, rfl, rfl, fun _ => rfl, by omega⟩)
        have h2 : freeR L [] = (Cc, 0) := by unfold freeR; rw [SL.out, hCc]; rfl
        rw [h2] at h1
        exact h1))
      have NC : Cc.length ≤ 600 := by
        have := (free_spec (s := L) (t := []) (sound_snd.1 SL.out) fL (fun a h => by cases h)).2.2.1
        rw [hCc]
        simp at this
        omega
      obtain ⟨pa1, ca1, ea⟩ := lst_len (own_lst H15.2.1)
      subst ea
      clear hCc SL BL BM BO HV HU H10 PL1 TL1
      go_wp2_with fail
      refine (FR.out _ _ (own_lst H15.2.1)).mono ?_
      rintro e w16 ⟨vc, rfl, hb16, OC⟩
      have H16 := HM2.step H15 hb16
      obtain ⟨pc1, cc1, ec⟩ := lst_len (own_lst OC)
      subst ec
      have AC1 := hide (apart_lt H15.2.1 OC (Nat.le_refl _)).symm
      have AC2 := hide (apart_lt H15.2.2 OC (Nat.le_refl _)).symm
      have W15z := Nat.le_trans H15.1.1.size (Nat.le_refl w15.heap.size)
      have OE := own_empty w16
      have BE := below_alloc w16 (.cells #[] 40)
      have HE := HM2.step H16 BE
      have OCE := own_keep OC BE
      clear H15 hb16 FR
      go_wp2_with (at_builtin; refine wpList_append_lst rfl (.tmp 118) (.tmp 119) rfl w16.heap.size _ [] rfl OE _ L rfl (own_lst HE.2.2) (by simp; omega) BE.size ?_; intro v17 w17 O17 B17 _; rw [List.nil_append] at O17)
      have AW1 := hide (apart_lt OC O17 (Nat.le_refl _))
      have AW2 := hide (apart_lt H16.2.1 O17 (Nat.le_refl _))
      have AW3 := hide (apart_lt H16.2.2 O17 (Nat.le_refl _))
      have K17 : HM3 w Cc.length w15.heap.size w8.heap.size W13.heap.size w16.heap.size (.slice pc1 Cc.length cc1) (.slice pa1 L.length ca1) b10 v17 L L w17 :=
        ⟨HE.1.1.trans (B17.mono H16.1.1.size), ⟨Cc, rfl, own_keepB OCE (fun k e => (OC.lt k e).2) B17⟩, own_keepB HE.2.1 (fun k e => (H16.2.1.lt k e).2) B17, own_keepB HE.2.2 (fun k e => (H16.2.2.lt k e).2) B17, O17⟩
      clear O17 B17 HE OCE OE BE H16 OC
      go_wp2
      go_loopw [16] (fun i wr => ∃ k : Nat, k ≤ Cc.length ∧ i = .int .i64 (k : Nat) ∧ HM3 w Cc.length w15.heap.size w8.heap.size W13.heap.size w16.heap.size (.slice pc1 Cc.length cc1) (.slice pa1 L.length ca1) b10 v17 L L wr) (fun i _ => Cc.length - (intOf i).toNat)
      case atStart => exact ⟨0, Nat.zero_le _, rfl, K17⟩
      case round =>
        obtain ⟨k, hk, rfl, HK⟩ := hrel
        clear K17
        by_cases hlt : k < Cc.length
        · go_wp2_with fail
          refine (m99 _).mono ?_
          rintro e w20 ⟨rfl, hb20⟩
          obtain ⟨g, cg, e, ⟨z0, z1, z2, z3, c0, c1, c2, c3⟩, ⟨f0, f1, f2, f3⟩, HP⟩ := (HM3.step HK hb20).put W15z AC1.out AC2.out AW1.out hlt 9 9
          cases e
          have HP' := hide HP
          clear HP HK hb20
          go_wp2
          go_roundw
          case rel => exact ⟨k + 1, hlt, by go_num, HP'.out⟩
          case measure => simp [intOf]; omega
        · have B9 := hide (fun W (H : HM3 w Cc.length w15.heap.size w8.heap.size W13.heap.size w16.heap.size (.slice pc1 Cc.length cc1) (.slice pa1 L.length ca1) b10 v17 L L W) => via (same_any (by omega) W (own_lst H.2.2.1) (own_lst H.2.2.2.2)) (v' := .bool true) (by simp))
          go_wp2_with fail
          refine (B9.out _ HK).mono ?_
          rintro e w21 ⟨rfl, hb21⟩
          have K21 := HM3.step HK hb21
          have K22 : HM3 w L.length w8.heap.size W13.heap.size w16.heap.size w16.heap.size (.slice pa1 L.length ca1) b10 v17 v17 L L w21 := ⟨K21.1, ⟨L, rfl, K21.2.2.1⟩, K21.2.2.2.1, K21.2.2.2.2, K21.2.2.2.2⟩
          clear HK hb21 K21 B9
          go_wp2
          go_loopw [17] (fun i wr => ∃ k : Nat, k ≤ L.length ∧ i = .int .i64 (k : Nat) ∧ HM3 w L.length w8.heap.size W13.heap.size w16.heap.size w16.heap.size (.slice pa1 L.length ca1) b10 v17 v17 L L wr) (fun i _ => L.length - (intOf i).toNat)
          case atStart => exact ⟨0, Nat.zero_le _, rfl, K22⟩
          case round =>
            obtain ⟨k, hk, rfl, HK⟩ := hrel
            clear K22
            by_cases hlt : k < L.length
            · go_wp2_with fail
              refine (m88 _).mono ?_
              rintro e w20 ⟨rfl, hb20⟩
              obtain ⟨g, cg, e, ⟨z0, z1, z2, z3, c0, c1, c2, c3⟩, ⟨f0, f1, f2, f3⟩, HP⟩ := (HM3.step HK hb20).put Z8.out SA.out AW2.out AW2.out hlt 8 8
              cases e
              have HP' := hide HP
              clear HP HK hb20
              go_wp2
              go_roundw
              case rel => exact ⟨k + 1, hlt, by go_num, HP'.out⟩
              case measure => simp [intOf]; omega
            · have B9 := hide (fun W (H : HM3 w L.length w8.heap.size W13.heap.size w16.heap.size w16.heap.size (.slice pa1 L.length ca1) b10 v17 v17 L L W) => via (same_any (by omega) W (own_lst H.2.2.1) (own_lst H.2.2.2.1)) (v' := .bool true) (by simp))
              go_wp2_with fail
              refine (B9.out _ HK).mono ?_
              rintro e w23 ⟨rfl, hb23⟩
              have K23 := HM3.step HK hb23
              clear HK hb23 B9
              go_wp2
              go_ret
              exact ⟨rfl, K23.1⟩
end Go.Proofs.Ytfmhpnendcikoaa
