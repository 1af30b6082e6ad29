/-
  The contracts of New and Append. Conditions: an int is one of 64 bits, a string is no longer than an int, and fewer than 2^62 operations have been answered OK.
-/
import Derived.Test.YtnaedngbcndakaaFilI
namespace Go.Proofs.Ytnaedngbcndakaa
open Go.RowKit Go.Maps

variable {w w' w1 w2 w3 : World} {d m : Nat} {O : Nat → Prop} {D : DataW Unit} {fb : Nm → Nat} {sv : Nm → Value} {s s' : Dk}
theorem info_at : ∃ i, Try.prog.info? 5 = some i ∧ i.zero = some (.int .u8 0) ∧ i.size = 1 ∧ i.bytes = 1 := by
  have h := infoB
  cases hi : Try.prog.info? 5 with
  | none => rw [hi] at h; cases h
  | some i =>
    rw [hi] at h
    simp at h
    exact ⟨i, rfl, h.1, h.2.1, h.2.2⟩
theorem cells_of (data : List UInt8) : Lib.strCells ⟨data.toArray⟩ = data.map byteV := by simp [Lib.strCells, byteV]
theorem append_own (w : World) {v : Value} {n : Nat} {xs : List Value} (hown : w.ownsRow 0 5 1 v n xs) (data : List UInt8) (hb : n + data.length ≤ 1099511627776) (ty : TypeId) :
    ∃ v' w', (Builtin.append_ #[56, 9] ty #[v, St data]).run Try.prog w = .ok v' w' ∧ w'.ownsRow 0 5 1 v' (n + data.length) (xs ++ data.map byteV) ∧ w.grownBy w' v.ownBlock ∧ ∀ i, v'.ownBlock = some i → v.ownBlock = some i ∨ w.heap.size ≤ i := by
  obtain ⟨i0, hi, hz, hs1, hb1⟩ := info_at
  have e1 : (⟨data.toArray⟩ : ByteArray).size = data.length := st_size data
  obtain ⟨v', w', hr, h1, h2, h3⟩ := Lib.run_append_own_string (P := Try.prog) w 0 56 9 ty 5 i0 Try.underlying56 Try.underlying9 hi hz hs1 hb1 v n xs hown ⟨data.toArray⟩ (by rw [e1]; unfold maxLen; omega) (by rw [e1]; omega) (Nat.zero_le _)
  rw [e1] at h1 h3
  rw [cells_of] at h1
  refine ⟨v', w', hr, h1, h2, fun i hvi => ?_⟩
  rcases hown.2 with ⟨rfl, rfl⟩ | ⟨g, cap, cur, rfl, hbg, hg, hnc, hcm, hcs, htake⟩
  · by_cases hm : data.length = 0
    · rw [h3.2 ⟨rfl, hm⟩] at hvi; cases hvi
    · obtain ⟨v2, w2, hr2, k1, _, _⟩ := Lib.run_append_own_string (P := Try.prog) w w.heap.size 56 9 ty 5 i0 Try.underlying56 Try.underlying9 hi hz hs1 hb1 (.slice none 0 0) 0 [] (World.ownsRow_nil w _ _ _) ⟨data.toArray⟩ (by rw [e1]; unfold maxLen; omega) (by rw [e1]; omega) (Nat.le_refl _)
      rw [hr] at hr2
      obtain ⟨rfl, rfl⟩ : v' = v2 ∧ w' = w2 := by injection hr2 with a b; exact ⟨a, b⟩
      exact Or.inr (k1.lt i hvi).1
  · by_cases hroom : n + data.length ≤ cap
    · have hr2 := Lib.run_append_room_string (P := Try.prog) w 56 9 ty 5 i0 Try.underlying56 Try.underlying9 hi hs1 g n cap cur hg ⟨data.toArray⟩ (by rw [e1]; exact hroom) (by rw [e1, hcs]; omega)
      rw [hr] at hr2
      obtain rfl : v' = _ := by injection hr2
      exact Or.inl hvi
    · have hxl : xs.length = n := by simpa using hown.1
      have hr2 := Lib.run_append_grow_string (P := Try.prog) w 56 9 ty 5 i0 (.int .u8 0) Try.underlying56 Try.underlying9 hi hz ⟨g, 0, none⟩ n cap xs (by rw [hs1]; simpa using hxl) (hown.cells (g := g) rfl) ⟨data.toArray⟩ (by rw [e1]; omega) (by rw [e1]; omega)
        (by rw [hb1, e1]; exact growslice_fits (by omega) (by omega))
      rw [hr] at hr2
      obtain rfl : v' = _ := by injection hr2
      cases hvi
      exact Or.inr (Nat.le_refl _)
theorem wpList_append_str {W : World} {ops : Array Oper} {rest : List Oper} {o : Oper} {a : Act} {Q : Exit → Act → World → Prop} (hgd : o.guard = none) (sl x : Operand)
    (ho : o.op = .call { callee := .builtin .append, args := #[sl, x], argTypes := #[56, 9] })
    (v : Value) (n : Nat) (l data : List UInt8) (hs : a.eval sl = v) (hown : W.ownsRow 0 5 1 v n (l.map byteV)) (hx : a.eval x = St data) (hb : n + data.length ≤ 1099511627776)
    (h : ∀ v' w', w'.ownsRow 0 5 1 v' (n + data.length) ((l ++ data).map byteV) → W.grownBy w' v.ownBlock → (∀ i, v'.ownBlock = some i → v.ownBlock = some i ∨ W.heap.size ≤ i) → wpList Try.prog ops Q rest (a.put o.dst v') w') :
    wpList Try.prog ops Q (o :: rest) a W := by
  refine wpList_plain hgd fun K hK => ?_
  obtain ⟨v', w', hr, h2, h3, h4⟩ := append_own W hown data hb o.type
  rw [← List.map_append] at h2
  unfold Oper.wp execOp
  simp only [ho, resolve, invoke, builtin, Sem.run_bind, Sem.run_pure, Result.andThen_ok, List.map_toArray, List.map_cons, List.map_nil, hs, hx, hr]
  exact hK _ _ (h v' w' h2 h3 h4)
/-- a new disk -/
def Born (w : World) (e : Ending) (w' : World) : Prop := ∃ d, e = .returned (Pt d) ∧ Fr No w w' ∧ w.heap.size ≤ d ∧ IsDsk w' d (fun k => w.heap.size ≤ k ∧ k < w'.heap.size) newD
theorem new_any (w : World) : Calls Try.prog 14 #[] w (Born w) := by
  have MM := run_makeMap (P := Try.prog) 70 w
  go_enter Try.func14, Try.ntmps14
  go_wp2
  go_ret
  have hm := World.ownsMap_made w Try.prog 9 ptrElem
  have F2 := Fr.alloc (w.alloc (.map #[] 0)) (.cells #[.map (some w.heap.size), .bool false, .int .i64 (-1), .int .i64 0, .int .i64 0] 72)
  have h1 := (MapKept.heap_alloc (w.alloc (.map #[] 0)) (.cells #[.map (some w.heap.size), .bool false, .int .i64 (-1), .int .i64 0, .int .i64 0] 72)).1
  have e1 : (w.alloc (.map #[] 0)).heap.size = w.heap.size + 1 := by simp
  rw [e1] at h1
  refine ⟨w.heap.size + 1, rfl, (Fr.alloc _ _).andNo F2, by omega, w.heap.size, .map [], fun _ => 0, fun _ => .slice none 0 0, ?_⟩
  refine ⟨⟨List.Pairwise.nil, (fun f hf => by cases hf), by show 0 ≤ 16; omega, ⟨by show (-1 : Int) ≤ -1; omega, by show (-1 : Int) ≤ _; omega⟩, ⟨by show _ ≤ (0 : Int); omega, by show (0 : Int) ≤ _; omega⟩⟩, ⟨-1, h1, Or.inl rfl, by omega⟩, map_fr hm F2 (fun e => e), (fun x => rfl), (fun x f hf => by cases hf), (fun x y hx => by cases hx), ⟨⟨by omega, lt_of_block h1⟩, ⟨Nat.le_refl _, by simp; omega⟩, (fun x hx => by cases hx)⟩, (fun k hk => hk.2)⟩
/-- bytes behind a file's -/
theorem Dsk.push (h : Dsk w d m O D fb sv s) {x : Nm} {f : Fl} (hf : find s.fs x = some f) {data : Nm} (hlen : f.data.length + data.length ≤ 1048576) {v' : Value} (hr : w3.ownsRow 0 5 1 v' (f.data.length + data.length) ((f.data ++ data).map byteV))
    (hg : w.grownBy w3 (sv x).ownBlock) (ho : ∀ i, v'.ownBlock = some i → (sv x).ownBlock = some i ∨ w.heap.size ≤ i) :
    w3.heap[fb x]? = some (.cells #[sv x, .int .i64 (f.safe : Nat)] 83 (0, 0)) ∧ w3.heap[d]? = w.heap[d]? ∧ d ≠ fb x ∧ Fr O w (w3.setCell ⟨fb x, 0, none⟩ v') ∧
      Dsk (w3.setCell ⟨fb x, 0, none⟩ v') d m (Gr O w (w3.setCell ⟨fb x, 0, none⟩ v')) D fb (upd sv x v') { s with fs := putF ⟨x, f.data ++ data, f.safe⟩ s.fs } := by
  have hx : (find s.fs x).isSome = true := by rw [hf]; rfl
  obtain ⟨a1, a2, a3, a4⟩ := h.apart hf
  have G := Fr.grown hg
  have hfb := G.keep (h.file x f hf).2.1 (fun e => a4 x f hf _ e.symm rfl)
  have hdb := G.block d (h.lt d h.own.1) (fun e => (a3 d e.symm).1 rfl)
  have Fst := Fr.set w3 ⟨fb x, 0, none⟩ v'
  have FR : Fr (fun i => i = fb x ∨ (sv x).ownBlock = some i) w (w3.setCell ⟨fb x, 0, none⟩ v') := (G.mono (fun i _ e => Or.inr e.symm)).trans Fst (fun i _ e => Or.inl e)
  have FA : FileAt (w3.setCell ⟨fb x, 0, none⟩ v') (fb x) v' ⟨x, f.data ++ data, f.safe⟩ := by
    refine ⟨by rw [set_block hfb 0]; rfl, ?_⟩
    show World.ownsRow _ 0 _ 1 v' (f.data ++ data).length _
    rw [List.length_append]
    refine own_fr hr Fst (fun i hi e => ?_)
    have e : i = fb x := e
    rcases ho i hi with k | k
    · exact a4 x f hf i k e.symm
    · have := h.lt _ (h.own.2.2 x hx).1
      omega
  have ok := h.ok.ok f (find_mem hf)
  refine ⟨hfb, hdb, a1, FR.mono (fun i _ e => ?_), h.refile hf FR (fun i _ e => e) FA rfl ⟨?_, ?_, by rw [← find_name hf]; exact ok.2.2⟩ ho⟩
  · rcases e with e | e
    · rw [e]; exact (h.own.2.2 x hx).1
    · exact (h.own.2.2 x hx).2 i e
  · show f.safe ≤ (f.data ++ data).length
    rw [List.length_append]; have := ok.1; omega
  · show (f.data ++ data).length ≤ _
    rw [List.length_append]; exact hlen
/-- the first bytes of a new file -/
theorem Dsk.fresh (h : Dsk w d m O D fb sv s) (x : Nm) {data : Nm} {g : Nat} (F2 : Fr No w w2) (hgb : w2.heap[g]? = some (.cells #[.slice none 0 0, .int .i64 0] 83 (0, 0))) (hgw : w.heap.size ≤ g) {v' : Value}
    (hr : w3.ownsRow 0 5 1 v' data.length (([] ++ data).map byteV)) (hg : w2.grownBy w3 (Value.slice none 0 0).ownBlock) (ho : ∀ i, v'.ownBlock = some i → (Value.slice none 0 0).ownBlock = some i ∨ w2.heap.size ≤ i) :
    w3.heap[g]? = some (.cells #[.slice none 0 0, .int .i64 0] 83 (0, 0)) ∧ d ≠ g ∧ Fr No w (w3.setCell ⟨g, 0, none⟩ v') ∧ Dsk (w3.setCell ⟨g, 0, none⟩ v') d m O D fb sv s ∧
      Loose (w3.setCell ⟨g, 0, none⟩ v') fb sv s g v' ⟨x, data, 0⟩ ∧ g < (w3.setCell ⟨g, 0, none⟩ v').heap.size ∧ ∀ i, v'.ownBlock = some i → w.heap.size ≤ i ∧ i < (w3.setCell ⟨g, 0, none⟩ v').heap.size := by
  have G := Fr.grown hg
  have hg3 := G.keep hgb (fun e => by cases e)
  have Fst := Fr.set w3 ⟨g, 0, none⟩ v'
  have F3 : Fr No w w3 := F2.trans G (fun i _ e => by cases e)
  have F4 : Fr No w (w3.setCell ⟨g, 0, none⟩ v') := F3.trans Fst (fun i hi e => by have e : i = g := e; omega)
  have hnew : ∀ i, v'.ownBlock = some i → w2.heap.size ≤ i := fun i hi => by
    rcases ho i hi with k | k
    · cases k
    · exact k
  have hgl := lt_of_block hgb
  have FA : FileAt (w3.setCell ⟨g, 0, none⟩ v') g v' ⟨x, data, 0⟩ := by
    refine ⟨by rw [set_block hg3 0]; rfl, ?_⟩
    have := own_fr hr Fst (fun i hi e => by have e : i = g := e; have := hnew i hi; omega)
    exact this
  refine ⟨hg3, fun e => by have := h.lt d h.own.1; omega, F4, h.no F4, ⟨FA, fun y hy => ⟨fun e => by have := h.lt _ (h.own.2.2 y hy).1; omega, fun k hk e => ?_⟩⟩, lt_of_block FA.1, fun i hi => ⟨?_, ?_⟩⟩
  · have h1 := h.lt _ ((h.own.2.2 y hy).2 k hk)
    have h2 := hnew k e
    have h3 := F2.size
    omega
  · have := hnew i hi
    have := F2.size
    omega
  · obtain ⟨cur, h4⟩ := FA.row hi
    exact lt_of_block h4
theorem acts_of {wa wb wc wd : World} {v : Value} (h0 : ∀ k, O k → k < w.heap.size) (F1 : Fr No w wa) (F2 : Fr O wa wb) (F3 : Fr (Gr O wa wb) wb wc) (G : Fr (Gr (Gr O wa wb) wb wc) wc wd ∧ IsDsk wd d (Gr (Gr (Gr O wa wb) wb wc) wc wd) s') : Acts w d O v s' (.returned v) wd := by
  have FF : Fr O w wd := (F1.no.trans (fr_gr (fr_gr F2 F3) (G.1.mono (fun i _ e => gr_gr F2.size F3.size i e))) (fun _ _ e => e))
  refine ⟨rfl, FF, G.2.wider (fun k hk => ?_) (gr_lt h0 FF.size)⟩
  have h1 : Gr (Gr O wa wc) wc wd k := by
    rcases hk with hk | hk
    · exact Or.inl (gr_gr F2.size F3.size k hk)
    · exact Or.inr hk
  exact gr_up F1.size k (gr_gr (Nat.le_trans F2.size F3.size) G.1.size k h1)
theorem goes_of {e : Ending} (hlt : ∀ k, O k → k < w.heap.size) (hd : O d) (G : Goes w d m O D fb sv s' e w') : Fr O w w' ∧ IsDsk w' d (Gr O w w') s' :=
  ⟨G.2.1.mono (fun i _ e => by rw [e]; exact hd), IsDsk.wider ⟨_, _, _, _, G.2.2⟩ (fun _ e => Or.inl e) (gr_lt hlt G.2.1.size)⟩
theorem acts2 {wc wd : World} {Q : Nat → Prop} (G : Fr Q wc wd ∧ IsDsk wd d (Gr Q wc wd) s') : Fr (Gr Q wc wc) wc wd ∧ IsDsk wd d (Gr (Gr Q wc wc) wc wd) s' := by
  have e : Gr Q wc wc = Q := by
    funext k
    refine propext ⟨fun h => ?_, fun h => Or.inl h⟩
    rcases h with h | h
    · exact h
    · omega
  rw [e]
  exact G
theorem append_nil (x data : Nm) (w : World) : Calls Try.prog 27 #[.pointer none, St x, St data] w (Tells w (.int .i64 2)) := by
  go_enter Try.func27, Try.ntmps27
  go_wp2_with (go_at_call 53; refine (check_nil _ _).mono ?_; rintro e w2 ⟨rfl, rfl⟩)
  go_ret
  exact ⟨rfl, Fr.alloc _ _⟩
/-- the world in which an empty file lies beside the row of its name -/
abbrev RowF (w : World) (x : Nm) : World := (Row1 w x).alloc (.cells #[.slice none 0 0, .int .i64 0] 83)
theorem check1 (h : IsDsk w d O s) {x : Nm} (hx : x.length ≤ maxLen) {c : Int} (hc : checkI s [x] = c) :
    Calls Try.prog 53 #[Pt d, .slice (some ⟨w.heap.size, 0, none⟩) 1 1] (Row1 w x) (Same (.int .i64 c) (Row1 w x)) := by
  have := check_any (h.no (Fr.alloc _ _)) (xs := [x]) (by simp) (row1_at w hx) (cap := 1)
  rw [hc] at this
  exact this
set_option maxRecDepth 100000 in
set_option maxHeartbeats 1000000 in
theorem append_any (h : IsDsk w d O s) (hst : s.steps < 4611686018427387904) {x data : Nm} (hx : x.length ≤ maxLen) (hdl : data.length ≤ maxLen) :
    Calls Try.prog 27 #[Pt d, St x, St data] w (Acts w d O (.int .i64 (appendD s x data).1) (appendD s x data).2) := by
  unfold maxLen at hdl
  have bad : ∀ c, checkI s [x] = c → (c == 0) = false → appendD s x data = (c, s) → Calls Try.prog 27 #[Pt d, St x, St data] w (Acts w d O (.int .i64 (appendD s x data).1) (appendD s x data).2) := fun c h1 h2 h3 => by
    rw [h3]
    have C := hide (check1 h hx h1)
    have h4 : ¬ c = 0 := by simpa using h2
    have H := hide h
    clear h h1 h2 h3 hx
    go_enter Try.func27, Try.ntmps27
    go_wp2_with (go_at_call 53; refine C.out.mono ?_; rintro e w2 ⟨rfl, rfl⟩)
    go_ret
    exact acts_same H.out (Fr.alloc _ _) _
  rcases chk1 s x with ⟨h1, h2⟩ | ⟨h1, h2, h3⟩ | ⟨h1, h2, h3⟩
  · exact bad 60 h2 rfl (by unfold appendD; rw [h1]; rfl)
  · exact bad 61 h3 rfl (by unfold appendD; rw [h1, h2]; rfl)
  clear bad
  have H0 := hide h
  have C := hide (check1 h hx h3)
  obtain ⟨m, D, fb, sv, h⟩ := h
  have H := hide h
  have HX := hide hx
  have HN := hide (nameB_len h2)
  have HDN := hide h1
  cases hf : find s.fs x with
  | none =>
    have ok := h.ok
    have D2 := h.no ((Fr.alloc w (.cells #[St x] 9)).andNo (Fr.alloc _ (.cells #[.slice none 0 0, .int .i64 0] 83)))
    have D1 := h.no (Fr.alloc w (.cells #[St x] 9))
    have LK := lookup_no D1 hf hx
    obtain ⟨_, _, _, c0, _⟩ := D1.cells
    obtain ⟨_, _, _, c9, _⟩ := D2.cells
    have LN := D2.map.len Try.underlying70 3
    rw [h.size] at LN
    have ln := h.ok.len
    have HFN := hide hf
    clear D1 D2 ok
    by_cases hfull : 16 ≤ s.fs.length ∨ 1048576 < data.length
    · have E : appendD s x data = (63, s) := by unfold appendD; rw [h1, h2, hf]; simp only [Bool.false_eq_true, if_false, if_true]; rw [if_pos hfull]
      rw [E]
      clear h h1 h2 h3 hx hf E
      by_cases h16 : 16 ≤ s.fs.length
      · have h17 : 16 ≤ (s.fs.length : Int) := by omega
        go_enter Try.func27, Try.ntmps27
        go_wp2_with (go_at_call 53; refine C.out.mono ?_; rintro e w2 ⟨rfl, rfl⟩)
        go_ret
        exact acts_same H0.out ((Fr.alloc _ _).andNo (Fr.alloc _ _)) _
      · have h17 : ¬ 16 ≤ (s.fs.length : Int) := by omega
        have h18 : 1048576 < (data.length : Int) := by omega
        clear hfull
        go_enter Try.func27, Try.ntmps27
        go_wp2_with (go_at_call 53; refine C.out.mono ?_; rintro e w2 ⟨rfl, rfl⟩)
        go_ret
        exact acts_same H0.out ((Fr.alloc _ _).andNo (Fr.alloc _ _)) _
    · have E : appendD s x data = goD { s with fs := putF ⟨x, data, 0⟩ s.fs } { s with fs := putF ⟨x, data, 0⟩ s.fs } := by unfold appendD; rw [h1, h2, hf]; simp only [Bool.false_eq_true, if_false, if_true]; rw [if_neg hfull]
      rw [E]
      have h17 : ¬ 16 ≤ (s.fs.length : Int) := by omega
      have h18 : ¬ 1048576 < (data.length : Int) := by omega
      have hb : 0 + data.length ≤ 1099511627776 := by omega
      have h19 : s.fs.length < 16 := by omega
      have F2 : Fr No w (RowF w x) := (Fr.alloc _ _).andNo (Fr.alloc _ _)
      have gb : (RowF w x).heap[w.heap.size + 1]? = some (.cells #[.slice none 0 0, .int .i64 0] 83 (0, 0)) := by
        have := (MapKept.heap_alloc (Row1 w x) (.cells #[.slice none 0 0, .int .i64 0] 83)).1
        rw [show (Row1 w x).heap.size = w.heap.size + 1 by simp] at this
        exact this
      have HF2 := hide F2
      have HGB := hide gb
      clear F2 gb hfull
      by_cases h0 : s.left = 0
      · rw [goD_off (by exact h0)]
        have H0L := hide h0
        clear h h1 h2 h3 hx hf E h0
        go_enter Try.func27, Try.ntmps27
        go_wp2_with (first
          | (go_at_call 53; refine C.out.mono ?_; rintro e w2 ⟨rfl, rfl⟩)
          | (go_at_call 54; refine ST.out.mono ?_; rintro e w6 ⟨rfl, G6⟩)
          | (at_builtin; refine wpList_append_str rfl _ _ rfl (.slice none 0 0) 0 [] data rfl (World.ownsRow_nil _ _ _ _) rfl hb ?_; intro v' w3 hr3 hg3 ho3; rw [Nat.zero_add] at hr3; obtain ⟨p', cap', hv'⟩ := row_slice hr3; subst hv'; obtain ⟨fb3, dne, FR4, D4, L4, gl4, ho4⟩ := H.out.fresh x HF2.out HGB.out (by omega) hr3 hg3 ho3; have q0 := cell_at fb3 0; have q1 := free_at fb3 0; simp at q0; have dne2 := dne.symm; have HD4 := hide D4; have HL4 := hide L4; have HFR := hide FR4; have HGL := hide gl4; have HO4 := hide ho4; obtain ⟨_, _, _, q2, _⟩ := D4.cells; clear fb3 D4 L4 hr3 hg3 ho3 FR4 gl4 ho4)
          | (at_mapUpdate; refine wpList_mapUpdate_in _ rfl _ _ _ 70 rfl 9 79 KS Try.underlying70 ptrElem m _ _ rfl HD4.out.map (by rw [HD4.out.size]; have := HD4.out.ok.len; unfold maxLen; omega) _ _ (.string x) rfl rfl (key_st HX.out) (.lit (.int .i64 ((w.heap.size + 1 : Nat) : Int))) [] (ptr_pt _) ?_; intro w5 hown5 hturn5; have FT5 := Fr.turned hturn5; have FW5 : Fr O w w5 := HFR.out.no.trans FT5 (fun i _ e => by rw [e]; exact H.out.own.2.1); have D5 := HD4.out.into (x := x) HL4.out rfl ⟨Nat.zero_le _, (by show data.length ≤ _; omega), HN.out⟩ (Or.inr h19) hown5 FT5 (O' := Gr O w w5) (fun _ e => Or.inl e) (Or.inr ⟨(by omega), Nat.lt_of_lt_of_le HGL.out FT5.size⟩) (fun i hi => Or.inr ⟨(HO4.out i hi).1, Nat.lt_of_lt_of_le (HO4.out i hi).2 FT5.size⟩) (gr_lt H.out.lt FW5.size); have ST := hide (step_off ⟨_, _, _, _, D5⟩ HDN.out H0L.out); have HD5 := hide D5; clear D5 hown5 hturn5)
          | go_in)
        go_ret
        exact acts_of H.out.lt (Fr.refl _ _) FW5 (Fr.refl _ _) (acts2 G6)
      · rw [goD_go (by exact h0)]
        have H0L := hide h0
        clear h h1 h2 h3 hx hf E h0
        go_enter Try.func27, Try.ntmps27
        go_wp2_with (first
          | (go_at_call 53; refine C.out.mono ?_; rintro e w2 ⟨rfl, rfl⟩)
          | (go_at_call 54; refine ST.out.mono ?_; rintro e w6 G6; obtain rfl := G6.1)
          | (at_builtin; refine wpList_append_str rfl _ _ rfl (.slice none 0 0) 0 [] data rfl (World.ownsRow_nil _ _ _ _) rfl hb ?_; intro v' w3 hr3 hg3 ho3; rw [Nat.zero_add] at hr3; obtain ⟨p', cap', hv'⟩ := row_slice hr3; subst hv'; obtain ⟨fb3, dne, FR4, D4, L4, gl4, ho4⟩ := H.out.fresh x HF2.out HGB.out (by omega) hr3 hg3 ho3; have q0 := cell_at fb3 0; have q1 := free_at fb3 0; simp at q0; have dne2 := dne.symm; have HD4 := hide D4; have HL4 := hide L4; have HFR := hide FR4; have HGL := hide gl4; have HO4 := hide ho4; obtain ⟨_, _, _, q2, _⟩ := D4.cells; clear fb3 D4 L4 hr3 hg3 ho3 FR4 gl4 ho4)
          | (at_mapUpdate; refine wpList_mapUpdate_in _ rfl _ _ _ 70 rfl 9 79 KS Try.underlying70 ptrElem m _ _ rfl HD4.out.map (by rw [HD4.out.size]; have := HD4.out.ok.len; unfold maxLen; omega) _ _ (.string x) rfl rfl (key_st HX.out) (.lit (.int .i64 ((w.heap.size + 1 : Nat) : Int))) [] (ptr_pt _) ?_; intro w5 hown5 hturn5; have FT5 := Fr.turned hturn5; have FW5 : Fr O w w5 := HFR.out.no.trans FT5 (fun i _ e => by rw [e]; exact H.out.own.2.1); have D5 := HD4.out.into (x := x) HL4.out rfl ⟨Nat.zero_le _, (by show data.length ≤ _; omega), HN.out⟩ (Or.inr h19) hown5 FT5 (O' := Gr O w w5) (fun _ e => Or.inl e) (Or.inr ⟨(by omega), Nat.lt_of_lt_of_le HGL.out FT5.size⟩) (fun i hi => Or.inr ⟨(HO4.out i hi).1, Nat.lt_of_lt_of_le (HO4.out i hi).2 FT5.size⟩) (gr_lt H.out.lt FW5.size); have ST := hide (step_go D5 (leftN0 H0L.out) hst); have HD5 := hide D5; clear D5 hown5 hturn5)
          | go_in)
        go_ret
        exact acts_of H.out.lt (Fr.refl _ _) FW5 (Fr.refl _ _) (acts2 (goes_of HD5.out.lt HD5.out.own.1 G6))
  | some f =>
    have HF := hide hf
    have HFA := hide (h.file x f hf).2
    have ok := h.ok.ok f (find_mem hf)
    have OK := hide ok
    have D1 := h.no (Fr.alloc w (.cells #[St x] 9))
    have LK := lookup_yes D1 hf
    obtain ⟨_, _, _, c0, _⟩ := D1.cells
    obtain ⟨p, cap, hv⟩ := row_slice (D1.file x f hf).2.2
    have k0 := cell_at (D1.file x f hf).2.1 0
    simp at k0
    rw [hv] at k0
    have HV := hide hv
    have HD1 := hide D1
    have ln := ok.2.1
    clear hv ok D1
    by_cases hfull : 1048576 < f.data.length + data.length
    · have E : appendD s x data = (63, s) := by unfold appendD; rw [h1, h2, hf]; simp only [Bool.false_eq_true, if_false, if_true]; rw [if_pos hfull]
      rw [E]
      have hfull2 : 1048576 - (f.data.length : Int) < (data.length : Int) := by omega
      clear h h1 h2 h3 hx hf E hfull
      go_enter Try.func27, Try.ntmps27
      go_wp2_with (go_at_call 53; refine C.out.mono ?_; rintro e w2 ⟨rfl, rfl⟩)
      go_ret
      exact acts_same H0.out (Fr.alloc _ _) _
    · have E : appendD s x data = goD { s with fs := putF ⟨x, f.data ++ data, f.safe⟩ s.fs } { s with fs := putF ⟨x, f.data ++ data, f.safe⟩ s.fs } := by unfold appendD; rw [h1, h2, hf]; simp only [Bool.false_eq_true, if_false, if_true]; rw [if_neg hfull]
      rw [E]
      have hfull2 : ¬ 1048576 - (f.data.length : Int) < (data.length : Int) := by omega
      have hb : f.data.length + data.length ≤ 1099511627776 := by omega
      have HFU := hide hfull
      have hf1 : find (putF ⟨x, f.data ++ data, f.safe⟩ s.fs) x = some ⟨x, f.data ++ data, f.safe⟩ := by rw [find_put H.out.ok.srt, if_pos rfl]
      have HF1 := hide hf1
      clear hf1
      by_cases h0 : s.left = 0
      · rw [goD_off (by exact h0)]
        have H0L := hide h0
        clear h h1 h2 h3 hx hf E hfull h0
        go_enter Try.func27, Try.ntmps27
        go_wp2_with (first
          | (go_at_call 53; refine C.out.mono ?_; rintro e w2 ⟨rfl, rfl⟩)
          | (go_at_call 54; refine ST.out.mono ?_; rintro e w6 ⟨rfl, G6⟩)
          | (at_builtin; refine wpList_append_str rfl _ _ rfl _ _ f.data data rfl (HV.out ▸ (HD1.out.file x f HF.out).2.2) rfl hb ?_; intro v' w3 hr3 hg3 ho3; obtain ⟨p', cap', hv'⟩ := row_slice hr3; subst hv'; rw [← HV.out] at hg3 ho3; obtain ⟨fb3, db3, dne, FR4, D4⟩ := HD1.out.push HF.out (by have := HFU.out; omega) hr3 hg3 ho3; have q0 := cell_at fb3 0; have q1 := free_at fb3 0; simp at q0; rw [HV.out] at q0; have dne2 := dne.symm; have HD4 := hide D4; have HFR := hide FR4; obtain ⟨_, _, _, q2, _⟩ := D4.cells; clear fb3 db3 D4 hr3 hg3 ho3 FR4)
          | (at_mapUpdate; refine wpList_mapUpdate_in _ rfl _ _ _ 70 rfl 9 79 KS Try.underlying70 ptrElem m _ _ rfl HD4.out.map (by rw [HD4.out.size]; have := HD4.out.ok.len; unfold maxLen; omega) _ _ (.string x) rfl rfl (key_st HX.out) (.lit (.int .i64 (fb x))) [] (ptr_pt _) ?_; intro w5 hown5 hturn5; have FT5 := Fr.turned hturn5; have D5 := HD4.out.again HF1.out hown5 FT5; have ST := hide (step_off ⟨_, _, _, _, D5⟩ HDN.out H0L.out); have HD5 := hide D5; clear D5 hown5 hturn5)
          | go_in)
        go_ret
        have F5 : Fr (Gr O (Row1 w x) _) _ w5 := FT5.mono (fun i _ e => by rw [e]; exact HD4.out.own.2.1)
        exact acts_of H.out.lt (Fr.alloc _ _) HFR.out F5 G6
      · rw [goD_go (by exact h0)]
        have H0L := hide h0
        clear h h1 h2 h3 hx hf E hfull h0
        go_enter Try.func27, Try.ntmps27
        go_wp2_with (first
          | (go_at_call 53; refine C.out.mono ?_; rintro e w2 ⟨rfl, rfl⟩)
          | (go_at_call 54; refine ST.out.mono ?_; rintro e w6 G6; obtain rfl := G6.1)
          | (at_builtin; refine wpList_append_str rfl _ _ rfl _ _ f.data data rfl (HV.out ▸ (HD1.out.file x f HF.out).2.2) rfl hb ?_; intro v' w3 hr3 hg3 ho3; obtain ⟨p', cap', hv'⟩ := row_slice hr3; subst hv'; rw [← HV.out] at hg3 ho3; obtain ⟨fb3, db3, dne, FR4, D4⟩ := HD1.out.push HF.out (by have := HFU.out; omega) hr3 hg3 ho3; have q0 := cell_at fb3 0; have q1 := free_at fb3 0; simp at q0; rw [HV.out] at q0; have dne2 := dne.symm; have HD4 := hide D4; have HFR := hide FR4; obtain ⟨_, _, _, q2, _⟩ := D4.cells; clear fb3 db3 D4 hr3 hg3 ho3 FR4)
          | (at_mapUpdate; refine wpList_mapUpdate_in _ rfl _ _ _ 70 rfl 9 79 KS Try.underlying70 ptrElem m _ _ rfl HD4.out.map (by rw [HD4.out.size]; have := HD4.out.ok.len; unfold maxLen; omega) _ _ (.string x) rfl rfl (key_st HX.out) (.lit (.int .i64 (fb x))) [] (ptr_pt _) ?_; intro w5 hown5 hturn5; have FT5 := Fr.turned hturn5; have D5 := HD4.out.again HF1.out hown5 FT5; have ST := hide (step_go D5 (leftN0 H0L.out) hst); have HD5 := hide D5; clear D5 hown5 hturn5)
          | go_in)
        go_ret
        have F5 : Fr (Gr O (Row1 w x) _) _ w5 := FT5.mono (fun i _ e => by rw [e]; exact HD4.out.own.2.1)
        exact acts_of H.out.lt (Fr.alloc _ _) HFR.out F5 (goes_of HD5.out.lt HD5.out.own.1 G6)
end Go.Proofs.Ytnaedngbcndakaa
