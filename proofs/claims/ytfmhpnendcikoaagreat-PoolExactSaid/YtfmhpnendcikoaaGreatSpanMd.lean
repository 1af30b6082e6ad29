/-
  The contract of the document's own edges: the rising row of all edges of a list of ranges. Conditions: the words are words of 64 bits; at most 400000 ranges.
  Steps of made, by place: arithmetic and lists only.
-/
import Derived.Test.YtfmhpnendcikoaaGreatSpanAw
namespace Go.Proofs.YtfmhpnendcikoaaGreat
open Go.RowKit Go.Joins

theorem with_len : ∀ (l : List Nat) (a : Nat), (withL l a).length ≤ l.length + 1
  | [], a => by simp [withL]
  | x :: r, a => by
    have := with_len r a
    unfold withL
    split
    · simp; omega
    · split <;> simp
theorem with_fits {l : List Nat} {a : Nat} (fl : ∀ b ∈ l, Fits b) (fa : Fits a) : ∀ b ∈ withL l a, Fits b := fun b h => by
  rcases (mem_with _ _ _).1 h with rfl | h
  · exact fa
  · exact fl b h
theorem edge_next {l : List Rg} {k : Nat} {x : Rg} (h : l[k]? = some x) : (l.take (k + 1)).foldl edgeStep [0] = edgeStep ((l.take k).foldl edgeStep [0]) x := by
  rw [List.take_add_one, h, List.foldl_append]
  rfl
theorem own_zero (W : World) : OwnA (W.alloc (.cells #[.int .u64 0, .int .u64 0] 31)) W.heap.size (.slice (some ⟨W.heap.size, 0, none⟩) 1 1) [0] := by
  have h := World.ownsRow_lit (base := W.heap.size) (e := 31) (size := 2) W #[.int .u64 0, .int .u64 0] 1 (Nat.le_refl _) (by unfold maxLen; omega) rfl
  have e : cellsA [0] = [.int .u64 0, .int .u64 0] := by simp [cellsA, cells2, hi, lo]
  unfold OwnA
  rw [e]
  exact h
set_option maxRecDepth 100000 in
set_option maxHeartbeats 1000000 in
theorem redges_any {v : Value} {l : List Rg} (hf : FitL l) (hl : l.length ≤ 400000) (w : World) (hv : Lst v l w) :
    Calls Tryz.prog 67 #[v] w (MakesA w.heap.size (edgesL l) w) := by
  obtain ⟨p, c, rfl, hold⟩ := lst_old hv
  have O0 := own_zero w
  have F0 : ∀ b ∈ [0], Fits b := fun b h => by rw [List.mem_singleton.1 h]; unfold Fits; omega
  clear hv
  go_enter Tryz.func67, Tryz.ntmps67
  go_wp2_with fail
  go_loopw [3, 4] (fun s3 i wr => ∃ (k : Nat) (v' : Value) (e : List Nat), k ≤ l.length ∧ i = .int .i64 (k : Nat) ∧ v' = s3 ∧ Below w.heap.size w wr ∧ OwnA wr w.heap.size v' e ∧ Hid (e = (l.take k).foldl edgeStep [0]) ∧ Hid (∀ b ∈ e, Fits b) ∧ e.length ≤ 2 * k + 1) (fun _ i _ => l.length - (intOf i).toNat)
  case atStart => exact ⟨0, _, [0], Nat.zero_le _, rfl, rfl, below_alloc _ _, O0, hide rfl, F0, by simp⟩
  case round =>
    obtain ⟨k, v', e, hk, rfl, rfl, HB, hown, E, FE, LE⟩ := hrel
    clear O0
    by_cases hlt : k < l.length
    · obtain ⟨x, hx⟩ := get_some hlt
      have fx := fit_at hf hx
      obtain ⟨b, o, rfl, hbb, x1, x2, x3, x4⟩ := (hold.keep HB) k x hx
      have W1 := hide (fun W H K => rwith_any (v := v') (l := e) (a := x.1) (base := w.heap.size) FE.out fx.1 (by omega) W H K)
      have F1 := with_fits FE.out fx.1
      have L1 := with_len e x.1
      have N := hide (fun W => rnext_any fx.2 W)
      have EN := hide (edge_next hx)
      rw [← E.out] at EN
      have KL : (k : Int) < (l.length : Int) := by omega
      have RX := hide (fun W (H : Below w.heap.size w W) => row_get (hold.keep H) hx)
      clear hx E
      go_wp2_with fail
      clear x1 x2 x3 x4
      refine (W1.out _ hown HB.size).mono ?_
      rintro e w1 ⟨v1, rfl, hb1, own1⟩
      have HB1 := HB.trans hb1
      obtain ⟨x1, x2, x3, x4⟩ := RX.out w1 HB1
      clear W1 hown hb1 HB
      go_wp2_with fail
      clear x1 x2 x3 x4
      refine (N.out _).mono ?_
      rintro e w2 ⟨rfl, hb2⟩
      have HB2 := chain HB1 hb2
      have own2 := own_keep own1 hb2
      clear own1 hb2 HB1 N
      cases ho : addO x.2 1 with
      | true =>
        have EE := hide (show withL e x.1 = (l.take (k + 1)).foldl edgeStep [0] by rw [EN.out]; unfold edgeStep; rw [ho]; rfl)
        generalize addS x.2 1 = n
        have own3 := own_keep own2 (below_alloc w2 (.cells #[.int .u64 (hi n : Nat), .int .u64 (lo n : Nat)] 31))
        have HB3 := chain HB2 (below_alloc w2 (.cells #[.int .u64 (hi n : Nat), .int .u64 (lo n : Nat)] 31))
        clear ho
        have F1 := hide F1
        go_wp2
        go_roundw
        case rel => exact ⟨k + 1, v1, withL e x.1, hlt, by go_num, rfl, HB3, own3, EE, F1, by omega⟩
        case measure => simp [intOf]; omega
      | false =>
        have EE := hide (show withL (withL e x.1) (addS x.2 1) = (l.take (k + 1)).foldl edgeStep [0] by rw [EN.out]; unfold edgeStep; rw [ho]; rfl)
        have fn := fits_addS x.2 1
        generalize addS x.2 1 = n at *
        have own3 := own_keep own2 (below_alloc w2 (.cells #[.int .u64 (hi n : Nat), .int .u64 (lo n : Nat)] 31))
        have HB3 := chain HB2 (below_alloc w2 (.cells #[.int .u64 (hi n : Nat), .int .u64 (lo n : Nat)] 31))
        have W2 := hide (fun W H K => rwith_any (v := v1) (l := withL e x.1) (a := n) (base := w.heap.size) F1 fn (by omega) W H K)
        have F2 := hide (with_fits F1 fn)
        have L2 := with_len (withL e x.1) n
        clear ho own2 HB2 F1 fn
        go_wp2_with fail
        refine (W2.out _ own3 HB3.size).mono ?_
        rintro e2 w4 ⟨v2, rfl, hb4, own4⟩
        have HB4 := HB3.trans hb4
        go_wp2
        go_roundw
        case rel => exact ⟨k + 1, v2, withL (withL e x.1) n, hlt, by go_num, rfl, HB4, own4, EE, F2, by omega⟩
        case measure => simp [intOf]; omega
    · have EE : edgesL l = e := by rw [E.out, List.take_of_length_le (by omega)]; rfl
      have EE := hide EE
      go_wp2
      go_ret
      refine ⟨_, rfl, HB, ?_⟩
      rw [EE.out]
      exact hown
end Go.Proofs.YtfmhpnendcikoaaGreat
namespace Go.Proofs.YtfmhpnendcikoaaGreat
open Go.RowKit Go.Joins

theorem edgeStep_len (e : List Nat) (x : Rg) : (edgeStep e x).length ≤ e.length + 2 := by
  unfold edgeStep
  have h1 := with_len e x.1
  split
  · omega
  · have h2 := with_len (withL e x.1) (addS x.2 1)
    omega
theorem edges_len_aux : ∀ (l : List Rg) (e : List Nat), (l.foldl edgeStep e).length ≤ e.length + 2 * l.length
  | [], e => by simp
  | x :: r, e => by
    have h1 := edges_len_aux r (edgeStep e x)
    have h2 := edgeStep_len e x
    rw [List.foldl_cons, List.length_cons]
    omega
theorem edges_len (l : List Rg) : (edgesL l).length ≤ 2 * l.length + 1 := by
  have := edges_len_aux l [0]
  unfold edgesL
  simp at this
  omega
theorem made_next {yes no : List Rg} {E : List Nat} {k s : Nat} {out : List Rg} (h : E[k]? = some s) :
    madeF yes no (E.drop k) out = madeF yes no (E.drop (k + 1)) (if keepB yes no s then putSeg out s (segEnd (E.drop (k + 1))) else out) := by
  obtain ⟨hl, e⟩ := List.getElem?_eq_some_iff.1 h
  rw [List.drop_eq_getElem_cons hl, e]
  rfl
theorem made_end {yes no : List Rg} {E : List Nat} {k : Nat} {out : List Rg} (h : E.length ≤ k) : madeF yes no (E.drop k) out = out := by
  rw [List.drop_eq_nil_of_le h]
  rfl
theorem segEnd_some {E : List Nat} {k t : Nat} (h : E[k]? = some t) : segEnd (E.drop k) = t - 1 := by
  obtain ⟨hl, e⟩ := List.getElem?_eq_some_iff.1 h
  rw [List.drop_eq_getElem_cons hl, e]
  rfl
theorem segEnd_none {E : List Nat} {k : Nat} (h : E.length ≤ k) : segEnd (E.drop k) = ones := by
  rw [List.drop_eq_nil_of_le h]
  try rfl
theorem putSeg_len (out : List Rg) (s e : Nat) : (putSeg out s e).length ≤ out.length + 1 := by
  unfold putSeg
  split
  · split
    · simp <;> omega
    · simp
  · rename_i h
    simp
theorem putSeg_nil (s e : Nat) : putSeg [] s e = [(s, e)] := rfl
theorem putSeg_join {out : List Rg} {k s e : Nat} {z : Rg} (hk : out.length = k + 1) (h : out[k]? = some z) (hz : addO z.2 1 = false) (hs : addS z.2 1 = s) : putSeg out s e = out.set k (z.1, e) := by
  have hl : out.getLast? = some z := by rw [List.getLast?_eq_getElem?, hk]; exact h
  have e1 := addS_one hz
  unfold putSeg
  rw [hl]
  simp only
  rw [if_pos (by omega)]
  have hd : out = out.dropLast ++ [z] := by
    have hne : out ≠ [] := by intro e0; rw [e0] at hk; simp at hk
    rw [List.getLast?_eq_some_getLast hne] at hl
    rw [← Option.some.inj hl]; exact (List.dropLast_concat_getLast hne).symm
  have ld : out.dropLast.length = k := by rw [List.length_dropLast, hk]; rfl
  generalize out.dropLast = d at *
  subst hd
  rw [List.set_append_right _ _ (by omega), ld, Nat.sub_self, List.set_cons_zero]
theorem putSeg_more {out : List Rg} {k s e : Nat} {z : Rg} (fs : Fits s) (hk : out.length = k + 1) (h : out[k]? = some z) (hz : ¬ (addO z.2 1 = false ∧ addS z.2 1 = s)) : putSeg out s e = out ++ [(s, e)] := by
  have hl : out.getLast? = some z := by rw [List.getLast?_eq_getElem?, hk]; exact h
  unfold putSeg
  rw [hl]
  simp only
  rw [if_neg]
  intro hc
  have ho : addO z.2 1 = false := by unfold addO; unfold Fits at fs; simp; omega
  exact hz ⟨ho, by rw [addS_one ho]; exact hc⟩
theorem ris_pos : ∀ {E : List Nat}, Ris E → ∀ {k t : Nat}, E[k + 1]? = some t → 0 < t
  | [], _, _, _, h => by simp at h
  | x :: r, hr, k, t, h => by
    have hm : t ∈ r := List.mem_of_getElem? (by simpa using h)
    have := hr.1 t hm
    omega
theorem sub_one {t : Nat} (h : 0 < t) (ft : Fits t) : subS t 1 = t - 1 := by
  unfold subS
  unfold Fits at ft
  omega
theorem edges_ris {l : List Rg} (hf : FitL l) : Ris (edgesL l) ∧ ∀ b ∈ edgesL l, Fits b := by
  have F0 : ∀ b ∈ [0], Fits b := fun b h => by rw [List.mem_singleton.1 h]; unfold Fits; omega
  have R0 : Ris [0] := by simp [Ris]
  have := edges_spec l [0] hf R0 F0
  exact ⟨this.1, this.2.1⟩
theorem fit_append {a b : List Rg} (ha : FitL a) (hb : FitL b) : FitL (a ++ b) := fun x h => (List.mem_append.1 h).elim (ha x) (hb x)
theorem cellsR_set2 {l : List Rg} {j y : Nat} {z : Rg} (h : l[j]? = some z) : ((cellsR l).set (j * 4 + 2) (.int .u64 (hi y : Nat))).set (j * 4 + 3) (.int .u64 (lo y : Nat)) = cellsR (l.set j (z.1, y)) := by
  induction l generalizing j with
  | nil => simp at h
  | cons x r ih =>
    cases j with
    | zero =>
      simp at h
      subst h
      rw [List.set_cons_zero, cellsR_cons, cellsR_cons]
      rfl
    | succ j =>
      have h' : r[j]? = some z := by simpa using h
      rw [show (j + 1) * 4 + 2 = (j * 4 + 2) + 4 by omega, show (j + 1) * 4 + 3 = (j * 4 + 3) + 4 by omega, List.set_cons_succ, cellsR_cons, cellsR_cons, ← ih h']
      rfl
end Go.Proofs.YtfmhpnendcikoaaGreat
