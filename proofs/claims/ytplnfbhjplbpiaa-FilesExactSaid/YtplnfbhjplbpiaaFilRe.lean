/-
  The contracts of the document's own power, Off, put, take. Conditions: an int is one of 64 bits; fewer than 2^62 operations have been answered OK.
-/
import Derived.Test.YtplnfbhjplbpiaaFilRd
namespace Go.Proofs.Ytplnfbhjplbpiaa
open Go.RowKit Go.Maps

variable {w w' w1 w2 w3 : World} {t : Nat} {v : Value} {O : Nat → Prop} {s s' : Dk} {l : List Fl}
set_option maxRecDepth 100000 in
theorem roff_any (h : RefAt w t v O s) {keep : Int} (hk : I64 keep) : Calls Try.prog 38 #[Pt t, .int .i64 keep] w (ActsR w t O (.tuple #[]) (offC s keep)) := by
  obtain ⟨k0, k1, _⟩ := h.cs
  have H := hide h
  have G := hide (goes_any h hk)
  clear h
  cases hdn : s.down with
  | true =>
    have E := hide (show offC s keep = s by unfold offC; rw [hdn]; rfl)
    rw [hdn] at k1
    clear hdn
    go_enter Try.func38, Try.ntmps38
    go_wp2
    go_end0
    exact ⟨rfl, Fr.refl _ _, IsRef.acts ⟨v, H.out⟩ (Fr.refl _ _) (by rw [E.out]; exact ⟨v, H.out⟩)⟩
  | false =>
    have E := hide (show offC s keep = offD s keep by unfold offC; rw [hdn]; rfl)
    rw [hdn] at k1
    clear hdn
    go_enter Try.func38, Try.ntmps38
    go_wp2_with (go_at_call 51; refine G.out.mono ?_; intro e w3 K; obtain rfl := K.1)
    go_end0
    exact ⟨rfl, by rw [E.out]; exact K.2⟩
theorem roff_nil (keep : Int) (w : World) : Calls Try.prog 38 #[.pointer none, .int .i64 keep] w (Same (.tuple #[]) w) := by
  go_enter Try.func38, Try.ntmps38
  go_wp2
  go_end0
  exact ⟨rfl, rfl⟩
set_option maxRecDepth 100000 in
theorem power_off (h : RefAt w t v O s) (h0 : s.left = 0) : Calls Try.prog 49 #[Pt t] w (ActsR w t O (.bool false) (offD s s.keep)) := by
  obtain ⟨k0, k1, k2, k3, _⟩ := h.cs
  have G := hide (goes_any h h.ok.keep)
  rw [h0] at k2
  clear h h0
  go_enter Try.func49, Try.ntmps49
  go_wp2_with (go_at_call 51; refine G.out.mono ?_; intro e w3 K; obtain rfl := K.1)
  go_ret
  exact ⟨rfl, K.2⟩
/-- a step of the document's own disk that is done -/
def GoesR (w : World) (t : Nat) (v : Value) (O : Nat → Prop) (s' : Dk) (e : Ending) (w' : World) : Prop := e = .returned (.bool true) ∧ Fr (fun i => i = t) w w' ∧ RefAt w' t v O s'
set_option maxRecDepth 100000 in
theorem power_go (h : RefAt w t v O s) (h0 : (s.left == 0) = false) (hst : s.steps < 4611686018427387904) : Calls Try.prog 49 #[Pt t] w (GoesR w t v O (tick s)) := by
  have H := hide h
  have h0 : ¬ s.left = 0 := by simpa using h0
  obtain ⟨k0, k1, k2, k3, k4, kf⟩ := h.cs
  have f2 := kf 2
  have f4 := kf 4
  have hlo := h.ok.left
  have tok := H.out.ok.tick
  clear h kf
  by_cases hp : 0 < s.left
  · have HT := hide (show (tick s).left = s.left - 1 from if_pos hp)
    go_enter Try.func49, Try.ntmps49
    go_wp2
    go_ret
    have Fst : Fr (fun i => i = t) w ((w.setCell ⟨t, 2, none⟩ (.int .i64 (s.left - 1))).setCell ⟨t, 4, none⟩ (.int .i64 ((s.steps : Int) + 1))) := (Fr.set w ⟨t, 2, none⟩ _).trans (Fr.set _ ⟨t, 4, none⟩ _) (fun i _ e => e)
    refine ⟨rfl, Fst, H.out.sets Fst (by simp) rfl tok ?_⟩
    rw [set_block (set_block H.out.cells 2 _) 4, HT.out]
    rfl
  · have HT := hide (show (tick s).left = s.left from if_neg hp)
    go_enter Try.func49, Try.ntmps49
    go_wp2
    go_ret
    have Fst : Fr (fun i => i = t) w (w.setCell ⟨t, 4, none⟩ (.int .i64 ((s.steps : Int) + 1))) := Fr.set w ⟨t, 4, none⟩ _
    refine ⟨rfl, Fst, H.out.sets Fst (by simp) rfl tok ?_⟩
    rw [set_block H.out.cells 4, HT.out]
    rfl
/-- what a file looks like as a value -/
abbrev FV (f : Fl) : Value := .agg #[St f.name, St f.data, .int .i64 (f.safe : Nat)]
theorem erase_take (l : List Fl) (a k : Nat) (hk : k < l.length) : (l.take (k + 1)).eraseIdx a = if k = a then (l.take k).eraseIdx a else (l.take k).eraseIdx a ++ [l[k]] := by
  rw [List.take_succ_eq_append_getElem hk, List.eraseIdx_append]
  have e : (l.take k).length = k := by rw [List.length_take]; omega
  rw [e]
  by_cases h1 : k = a
  · subst h1
    rw [if_neg (Nat.lt_irrefl _), if_pos rfl, Nat.sub_self, List.eraseIdx_of_length_le (Nat.le_of_eq e)]
    simp
  · rw [if_neg h1]
    by_cases h2 : a < k
    · rw [if_pos h2]
    · rw [if_neg h2, List.eraseIdx_of_length_le (l := l.take k) (by omega), List.eraseIdx_of_length_le (l := [l[k]]) (by show 1 ≤ a - k; omega)]
/-- a call that takes a file out of the list -/
def TakesR (w : World) (t : Nat) (O : Nat → Prop) (f : Fl) (s' : Dk) (e : Ending) (w' : World) : Prop := e = .returned (FV f) ∧ Fr O w w' ∧ IsRef w' t (Gr O w w') s'
theorem own_zero {base n size : Nat} {e : TypeId} {xs : List Value} (h : w.ownsRow base e size v n xs) : w.ownsRow 0 e size v n xs := ⟨h.1, h.2.imp id (fun ⟨g, cap, cur, h1, _, r⟩ => ⟨g, cap, cur, h1, Nat.zero_le _, r⟩)⟩
theorem alloc_new (W : World) (o : Obj) : (W.alloc o).heap[W.heap.size]? = some o := by
  show (W.heap.push o)[W.heap.size]? = some o
  simp
set_option maxRecDepth 100000 in
set_option maxHeartbeats 2000000 in
theorem take_any (h : RefAt w t v O s) {a : Nat} (ha : a < s.fs.length) (hok : DkOk { s with fs := s.fs.eraseIdx a }) : Calls Try.prog 50 #[Pt t, .int .i64 (a : Int)] w (TakesR w t O s.fs[a] { s with fs := s.fs.eraseIdx a }) := by
  obtain ⟨i0, hi, hz0, hz1, hz2⟩ := info_of infoF
  have HH := hide h
  have HL := h.ok.len
  obtain ⟨p, cap, rfl⟩ := h.row.form
  have HOK := hide hok
  have HA := hide ha
  obtain ⟨n, hn⟩ : ∃ n, n = s.fs.length := ⟨_, rfl⟩
  rw [← hn] at HH HL
  have HN := hide hn
  obtain ⟨g, cap2, ev, y0, y1, y2, y3, x4⟩ := h.row.at ha
  obtain ⟨rfl, h7, h8⟩ : p = some ⟨g, 0, none⟩ ∧ True ∧ cap = cap2 := by simpa using ev
  have F1 := hide (Fr.alloc w (.cells #[.string ⟨#[]⟩, .string ⟨#[]⟩, .int .i64 0] 65))
  have R1 := h.no F1.out
  obtain ⟨c0, _⟩ := R1.cs
  obtain ⟨x0, x1, x2, x3⟩ := R1.row.c ha
  have HFA := hide (show s.fs[a] = s.fs[a] from rfl)
  clear y0 y1 y2 y3 h7 h8 ev hok h R1
  generalize hfa : s.fs[a] = f at x0 x1 x2 HFA ⊢
  have HFA := hide hfa
  clear hfa
  rw [← hn] at c0
  have han : (a : Int) < (n : Int) := by omega
  have OL := own_lit ((w.alloc (.cells #[.string ⟨#[]⟩, .string ⟨#[]⟩, .int .i64 0] 65)).alloc (.cells #[St f.name, St f.data, .int .i64 (f.safe : Nat)] 65)) 65 3
  have FZ : Fr No w (((w.alloc (.cells #[.string ⟨#[]⟩, .string ⟨#[]⟩, .int .i64 0] 65)).alloc (.cells #[St f.name, St f.data, .int .i64 (f.safe : Nat)] 65)).alloc (.cells #[] 65)) := ((Fr.alloc _ _).andNo (Fr.alloc _ _)).andNo (Fr.alloc _ _)
  have B0 : (((w.alloc (.cells #[.string ⟨#[]⟩, .string ⟨#[]⟩, .int .i64 0] 65)).alloc (.cells #[St f.name, St f.data, .int .i64 (f.safe : Nat)] 65)).alloc (.cells #[] 65)).heap[w.heap.size]? = some (.cells #[.string ⟨#[]⟩, .string ⟨#[]⟩, .int .i64 0] 65) := (Fr.alloc _ _).keep ((Fr.alloc _ _).keep (alloc_new _ _) (fun e => e)) (fun e => e)
  have B1 : (((w.alloc (.cells #[.string ⟨#[]⟩, .string ⟨#[]⟩, .int .i64 0] 65)).alloc (.cells #[St f.name, St f.data, .int .i64 (f.safe : Nat)] 65)).alloc (.cells #[] 65)).heap[w.heap.size + 1]? = some (.cells #[St f.name, St f.data, .int .i64 (f.safe : Nat)] 65) := by
    refine (Fr.alloc _ _).keep ?_ (fun e => e)
    have := alloc_new (w.alloc (.cells #[.string ⟨#[]⟩, .string ⟨#[]⟩, .int .i64 0] 65)) (.cells #[St f.name, St f.data, .int .i64 (f.safe : Nat)] 65)
    simpa using this
  clear HFA
  go_enter Try.func50, Try.ntmps50
  go_wp2
  go_loopw [6, 7] (fun lv i wr => ∃ (k m : Nat) (q : Option Go.Addr) (cc : Nat), k ≤ n ∧ lv = .slice q m cc ∧ i = .int .i64 (k : Int) ∧ m = ((s.fs.take k).eraseIdx a).length ∧ wr.ownsRow (w.heap.size + 1 + 1) 65 3 (.slice q m cc) m (flat ((s.fs.take k).eraseIdx a)) ∧ Fr No w wr ∧ wr.heap[w.heap.size]? = some (.cells #[.string ⟨#[]⟩, .string ⟨#[]⟩, .int .i64 0] 65) ∧ wr.heap[w.heap.size + 1]? = some (.cells #[St f.name, St f.data, .int .i64 (f.safe : Nat)] 65)) (fun _ i _ => n - (intOf i).toNat)
  case atStart => exact ⟨0, 0, _, _, Nat.zero_le _, rfl, rfl, by simp, by simpa [flat] using OL, FZ, B0, B1⟩
  case round =>
    clear OL FZ B0 B1 c0 x0 x1 x2 x3 F1
    obtain ⟨k, m, q, cc, hk, rfl, rfl, hm, OW, hF, B0, B1⟩ := hrel
    have HR := HH.out.no hF
    obtain ⟨c0, _⟩ := HR.cs
    have hmk : m ≤ k := by
      have := List.length_eraseIdx_le (s.fs.take k) a
      rw [List.length_take] at this
      omega
    by_cases hlt : k < n
    · have hlt2 : (k : Int) < (n : Int) := by omega
      have hkl : k < s.fs.length := by rw [← HN.out]; exact hlt
      have ET := hide (erase_take s.fs a k hkl)
      obtain ⟨x0, x1, x2, x3⟩ := HR.row.c hkl
      generalize hy : s.fs[k] = y at x0 x1 x2 ET
      clear hy HR
      have hsz := hF.size
      by_cases hka : k = a
      · have a1 : (k : Int) = (a : Int) := by omega
        have a2 : ((k : Int) == (a : Int)) = true := by simpa using a1
        have E := ET.out
        rw [if_pos hka] at E
        have HB0 := hide B0
        have HB1 := hide B1
        have HOW := hide OW
        have HE := hide E
        have HM := hide hm
        clear B0 B1 OW ET E hm hka
        go_wp2
        go_roundw
        case rel => exact ⟨k + 1, m, q, cc, by omega, rfl, by go_num, by rw [HE.out]; exact HM.out, by rw [HE.out]; exact HOW.out, hF, HB0.out, HB1.out⟩
        case measure => simp [intOf]; omega
      · have a1 : ¬ (k : Int) = (a : Int) := by omega
        have a2 : ((k : Int) == (a : Int)) = false := by simpa using a1
        have E := ET.out
        rw [if_neg hka] at E
        have AW := OW.alloc (.cells #[St y.name, St y.data, .int .i64 (y.safe : Nat)] 65)
        have HB0 := hide B0
        have HB1 := hide B1
        have HE := hide E
        have HM := hide hm
        clear B0 B1 OW ET E hm hka
        go_wp2_with (at_builtin; refine wpList_append_lies _ rfl _ _ 55 rfl (w.heap.size + 1 + 1) 65 i0 (.agg #[.string ⟨#[]⟩, .string ⟨#[]⟩, .int .i64 0]) 3 40 Try.underlying55 hi hz0 hz1 hz2 rfl (by decide) _ m _ rfl AW ⟨wr.heap.size, 0, none⟩ 1 1 [St y.name, St y.data, .int .i64 (y.safe : Nat)] rfl rfl (fun j u hu => World.news_of_block (alloc_new wr _) j u hu) (fun u hu => by simp at hu; rcases hu with rfl | rfl | rfl <;> rfl) (by decide) (by unfold maxLen; omega) (by omega) (by have := lt_of_block HB1.out; simp; omega) _ rfl ?_; intro g3 cap3 w3 O3 G3 L3 L4)
        have FG : Fr (fun i => w.heap.size + 1 + 1 ≤ i) wr w3 := (Fr.alloc wr _).no.trans ((Fr.grown G3).mono (S2 := fun i => w.heap.size + 1 + 1 ≤ i) (fun i hi e => (AW.lt i e.symm).1)) (fun i _ e => e)
        have F3 : Fr No w w3 := hF.trans FG (fun i hi e => by have e : w.heap.size + 1 + 1 ≤ i := e; omega)
        have K0 := hide (FG.keep HB0.out (show ¬ w.heap.size + 1 + 1 ≤ w.heap.size by omega))
        have K1 := hide (FG.keep HB1.out (show ¬ w.heap.size + 1 + 1 ≤ w.heap.size + 1 by omega))
        have HO := hide O3
        clear AW L3 L4 G3 O3 FG
        go_wp2
        go_roundw
        case rel => exact ⟨k + 1, m + 1, some ⟨g3, 0, none⟩, cap3, by omega, rfl, by go_num, by rw [HE.out, List.length_append, ← HM.out]; rfl, by rw [HE.out, flat_append]; exact HO.out, F3, K0.out, K1.out⟩
        case measure => simp [intOf]; omega
    · have hlt2 : ¬ (k : Int) < (n : Int) := by omega
      have E : s.fs.take k = s.fs := List.take_of_length_le (by have := HN.out; omega)
      rw [E] at OW hm
      have HOW := hide OW
      have HM := hide hm
      have HT := HR.cells
      have HRl := hide HR
      clear OW E hm HR
      have htw : t < w.heap.size := lt_of_block HH.out.cells
      have ft := free_at HT 0
      have hcur := cell_at HT 0
      simp at hcur
      have T0 := (Fr.set wr ⟨t, 0, none⟩ (.slice q m cc)).keep B0 (show ¬ w.heap.size = t by omega)
      have T1 := (Fr.set wr ⟨t, 0, none⟩ (.slice q m cc)).keep B1 (show ¬ w.heap.size + 1 = t by omega)
      have b0 := cell_at T1 0
      have b1 := cell_at T1 1
      have b2 := cell_at T1 2
      simp at b0 b1 b2
      have f0 := free_at T0 0
      have f1 := free_at T0 1
      have f2 := free_at T0 2
      have d0 := cell_at T0 0
      have d1 := cell_at T0 1
      have d2 := cell_at T0 2
      simp at d0 d1 d2
      have HT0 := hide HT
      clear HT B0 B1 T1 hlt c0 hmk
      have BF := set_block (set_block (set_block T0 0 (St f.name)) 1 (St f.data)) 2 (.int .i64 (f.safe : Nat))
      have e0 := cell_at BF 0
      have e1 := cell_at BF 1
      have e2 := cell_at BF 2
      simp at e0 e1 e2
      have Fst : Fr (fun i => i = w.heap.size) (wr.setCell ⟨t, 0, none⟩ (.slice q m cc)) ((((wr.setCell ⟨t, 0, none⟩ (.slice q m cc)).setCell ⟨w.heap.size, 0, none⟩ (St f.name)).setCell ⟨w.heap.size, 1, none⟩ (St f.data)).setCell ⟨w.heap.size, 2, none⟩ (.int .i64 (f.safe : Nat))) := ((Fr.set _ ⟨w.heap.size, 0, none⟩ _).trans (Fr.set _ ⟨w.heap.size, 1, none⟩ _) (fun i _ e => e)).trans (Fr.set _ ⟨w.heap.size, 2, none⟩ _) (fun i _ e => e)
      have FT := Fr.set wr ⟨t, 0, none⟩ (.slice q m cc)
      have TT := set_block HT0.out 0 (.slice q m cc)
      have HOt := HH.out.own.1
      have hF2 : Fr O w (wr.setCell ⟨t, 0, none⟩ (.slice q m cc)) := hF.no.trans FT (fun i _ e => by have e : i = t := e; rw [e]; exact HOt)
      have hF3 := hF2.trans Fst (fun i hi e => by have e : i = w.heap.size := e; omega)
      have FIN : TakesR w t O f { s with fs := s.fs.eraseIdx a } (.returned (FV f)) ((((wr.setCell ⟨t, 0, none⟩ (.slice q m cc)).setCell ⟨w.heap.size, 0, none⟩ (St f.name)).setCell ⟨w.heap.size, 1, none⟩ (St f.data)).setCell ⟨w.heap.size, 2, none⟩ (.int .i64 (f.safe : Nat))) := by
        refine ⟨rfl, hF3, .slice q m cc, HOK.out, Fst.keep TT (show ¬ t = w.heap.size by omega), ?_, ⟨Or.inl HOt, fun i hi => Or.inr ?_⟩, gr_lt HH.out.lt hF3.size⟩
        · have R0 := own_fr (own_fr HOW.out FT (fun i hi e => by have e : i = t := e; have := (HOW.out.lt i hi).1; omega)) Fst (fun i hi e => by have e : i = w.heap.size := e; have := (HOW.out.lt i hi).1; omega)
          have R1 := own_zero R0
          rw [HM.out] at R1
          rw [HM.out]
          exact R1
        · have h1 := HOW.out.lt i hi
          have h2 := (FT.size)
          have h3 := Fst.size
          omega
      have HFIN := hide FIN
      clear FIN T0 BF TT Fst FT hF2 hF3 HOt HT0
      go_wp2
      exact bodyPost_ret (v := FV f) (by simp [results, Try.results50, go_sem, e0, e1, e2]) rfl HFIN.out
end Go.Proofs.Ytplnfbhjplbpiaa
