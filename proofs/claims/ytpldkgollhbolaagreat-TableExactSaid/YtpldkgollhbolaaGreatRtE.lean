/-
  The document's own All, Next, Client, Meets of layer 9. Conditions: at most 2000 leases, of their types.
-/
import Derived.Test.YtpldkgollhbolaaGreatRtD
import Derived.Test.YtpldkgollhbolaaGreatTbVm
import Derived.Laws.AppendOwnNone
namespace Go.Proofs.YtpldkgollhbolaaGreat
open Go.RowKit Go.Joins Go.Maps

variable {w w' V W W' : World} {L : List Ls} {v : Value}
theorem lstL_cells {b o : Nat} {l : List Ls} (h : LstL (some ⟨b, o, none⟩) l W) : ∀ j u, (cellsL l)[j]? = some u → W.cell? ((⟨b, o, none⟩ : Go.Addr).add j) = some u := by
  intro j u hj
  have hj9 : j < l.length * 8 := by have := (List.getElem?_eq_some_iff.1 hj).1; rwa [cellsL_len] at this
  obtain ⟨x, hx⟩ : ∃ x, l[j / 8]? = some x := ⟨_, List.getElem?_eq_getElem (by omega)⟩
  have e := cellsL_at l (j / 8) (j % 8) x hx (Nat.mod_lt _ (by omega))
  have ej : j / 8 * 8 + j % 8 = j := by omega
  rw [ej, hj] at e
  obtain ⟨b2, o2, e2, h0, h1, h2, h3, h4, h5, h6, h7⟩ := h (j / 8) x hx
  cases e2
  have ha : (⟨b, o, none⟩ : Go.Addr).add j = ⟨b, o + j / 8 * 8 + j % 8, none⟩ := by
    rw [show o + j / 8 * 8 + j % 8 = o + j by omega]
    cases j <;> simp [Addr.add]
  rw [ha]
  have hm := Nat.mod_lt j (show 0 < 8 by omega)
  generalize j % 8 = i at *
  match i, hm with
  | 0, _ => simp [wdL] at e; rw [e]; exact h0
  | 1, _ => simp [wdL] at e; rw [e]; exact h1
  | 2, _ => simp [wdL] at e; rw [e]; exact h2
  | 3, _ => simp [wdL] at e; rw [e]; exact h3
  | 4, _ => simp [wdL] at e; rw [e]; exact h4
  | 5, _ => simp [wdL] at e; rw [e]; exact h5
  | 6, _ => simp [wdL] at e; rw [e]; exact h6
  | 7, _ => simp [wdL] at e; rw [e]; exact h7
theorem cellsL_one (l : List Ls) : ∀ u ∈ cellsL l, u.oneCell' = true := by
  intro u hu
  unfold cellsL at hu
  obtain ⟨c, hc, hu⟩ := List.mem_flatten.1 hu
  obtain ⟨x, _, rfl⟩ := List.mem_map.1 hc
  exact wdL_cell x u hu
theorem cellsL_append (a b : List Ls) : cellsL (a ++ b) = cellsL a ++ cellsL b := by unfold cellsL; simp
theorem wpList_append_lstL {w : World} {ops : Array Oper} {rest : List Oper} {o : Oper} {a : Act} {Q : Exit → Act → World → Prop} (hgd : o.guard = none) (s x : Operand)
    (ho : o.op = .call { callee := .builtin .append, args := #[s, x], argTypes := #[43, 43] })
    (base : Nat) (v : Value) (pre : List Ls) (hs : a.eval s = v) (hown : OwnL w base v pre) (q : Option Go.Addr) (l : List Ls) (c : Nat) (hx : a.eval x = .slice q l.length c) (hq : q = none → c = 0) (hl : LstL q l w)
    (hn : pre.length + l.length ≤ 1000000) (hbase : base ≤ w.heap.size)
    (h : ∀ v' w', OwnL w' base v' (pre ++ l) → Below base w w' → wpList Tryz.prog ops Q rest (a.put o.dst v') w') : wpList Tryz.prog ops Q (o :: rest) a w := by
  obtain ⟨i0, hi, hz0, hz1, hz2⟩ := info_parts infoL
  have own_lt : ∀ j, v.ownBlock = some j → base ≤ j := fun j hj => (World.ownsRow.lt hown j hj).1
  cases q with
  | none =>
    have hl0 : l = [] := by
      cases l with
      | nil => rfl
      | cons y r => obtain ⟨_, _, e, _⟩ := hl 0 y rfl; cases e
    subst hl0
    obtain rfl := hq rfl
    refine wpList_append_own_none hgd s x 43 ho base 30 i0 8 Tryz.underlying43 hi v pre.length (cellsL pre) hs hown hx ?_
    exact h v w (by rw [List.append_nil]; exact hown) (Below.refl _ _)
  | some ad =>
    refine wpList_append_own w hgd s x 43 ho base 30 i0 zLv 8 72 Tryz.underlying43 hi hz0 hz1 hz2 rfl (by decide) v pre.length (cellsL pre) hs hown ad l.length c (cellsL l) hx (cellsL_len l) (fun j u hj => ?_) (cellsL_one l) (by unfold maxLen; omega) (by omega) hbase ?_
    · cases l with
      | nil => simp [cellsL] at hj
      | cons y r =>
        obtain ⟨b, o, e, _⟩ := hl 0 y rfl
        cases e
        exact lstL_cells hl j u hj
    · intro v2 w2 h1 h2 _
      refine h v2 w2 ?_ ((Below.refl _ _).grown h2 hbase (fun j hj => own_lt j hj))
      unfold OwnL
      rw [List.length_append, cellsL_append]
      exact h1
set_option maxRecDepth 100000 in
theorem rall_any {u c : Nat} {p : Option Go.Addr} (h : RTab w u p c L) (hn : L.length ≤ 2000) : Calls Tryz.prog 12 #[Pt u] w (LsPost2 w L) := by
  have HT := hide h
  have OE := hide (ownL_empty w)
  have B1 := hide (below_alloc w (.cells #[] 30))
  have T1 := hide (h.step (below_alloc w (.cells #[] 30)))
  have c0 := h.cell
  have lt := h.lt
  have n1 : ¬ u = w.heap.size := by omega
  have n2 : ¬ w.heap.size = u := by omega
  clear h
  go_enter Tryz.func12, Tryz.ntmps12
  go_wp2_with (at_builtin; refine wpList_append_lstL rfl (.tmp 7) (.tmp 11) rfl w.heap.size (.slice (some ⟨w.heap.size, 0, none⟩) 0 0) [] rfl OE.out p L c rfl HT.out.nil T1.out.lst (by simp; omega) (by simp) ?_; intro v5 w5 O5 Z5)
  go_ret
  exact ⟨v5, rfl, ownL_res O5, B1.out.trans Z5, ownL_nil O5⟩
set_option maxRecDepth 100000 in
set_option maxHeartbeats 2000000 in
theorem rnext_any {u c : Nat} {p : Option Go.Addr} (h : RTab w u p c L) (hn : L.length ≤ 2000) : Calls Tryz.prog 28 #[Pt u] w (Gives (.tuple #[.int .i64 (nextL L), .bool (decide (L ≠ []))]) w) := by
  have HT := hide h
  have hn2 : (L.length : Int) ≤ 2000 := by omega
  have LS := hide (fun i x (hx : L[i]? = some x) => least_step hx)
  have LZ := hide (show nextL (L.take 0) = 0 from rfl)
  have LE := hide (show nextL (L.take L.length) = nextL L by rw [List.take_length])
  obtain ⟨lsn, hls⟩ : ∃ lsn : Nat → Int, (fun i => nextL (L.take i)) = lsn := ⟨_, rfl⟩
  have HLS := hide (show ∀ i, nextL (L.take i) = lsn i from fun i => congrFun hls i)
  have c0 := h.cell
  have NB1 := hide (show decide (L ≠ []) = decide (0 < L.length) by rw [decide_eq_decide]; exact List.length_pos_iff.symm)
  generalize decide (L ≠ []) = nb at *
  clear h hls
  go_enter Tryz.func28, Tryz.ntmps28
  go_wp2_with fail
  go_loopw [4, 5, 6] (fun n ok i wr => ∃ k : Nat, k ≤ L.length ∧ n = .int .i64 (lsn k) ∧ ok = .bool (decide (0 < k)) ∧ i = .int .i64 (k : Nat) ∧ Hid (Below w.heap.size w wr)) (fun _ _ i => fun _ => L.length - (intOf i).toNat)
  case atStart => exact ⟨0, Nat.zero_le _, by rw [← HLS.out 0]; rfl, rfl, rfl, hide (Below.refl _ _)⟩
  case round =>
    clear c0
    obtain ⟨k, hk, rfl, rfl, rfl, HB⟩ := hrel
    have hk0 : (0 : Int) ≤ (k : Int) := by omega
    have HTk := HT.out.step HB.out
    have c0 := HTk.cell
    by_cases hlt : k < L.length
    · have hlt2 : (k : Int) < (L.length : Int) := by omega
      obtain ⟨x, hx⟩ : ∃ x, L[k]? = some x := ⟨_, List.getElem?_eq_getElem hlt⟩
      have LS2 := hide (show lsn (k + 1) = if k = 0 then x.un else if x.un < lsn k then x.un else lsn k by rw [← HLS.out, ← HLS.out]; exact LS.out k x hx)
      obtain ⟨b, o, rfl, y0, y1, y2, y3, y4, y5, y6, y7⟩ := HTk.lst k x hx
      clear HTk hx
      by_cases hz : k = 0
      · have hd : decide (0 < k) = false := decide_eq_false (by omega)
        have HZ := hide hz
        rw [hd]
        clear hz hd
        go_wp2
        go_roundw
        case rel => exact ⟨k + 1, hlt, by rw [LS2.out, if_pos HZ.out], by rw [decide_eq_true (by omega)], by go_num, HB⟩
        case measure => simp [intOf]; omega
      · have hd : decide (0 < k) = true := decide_eq_true (by omega)
        have HZ := hide hz
        rw [hd]
        clear hz hd
        by_cases hlu : x.un < lsn k
        · go_wp2
          go_roundw
          case rel => exact ⟨k + 1, hlt, by rw [LS2.out, if_neg HZ.out, if_pos hlu], by rw [decide_eq_true (by omega)], by go_num, HB⟩
          case measure => simp [intOf]; omega
        · go_wp2
          go_roundw
          case rel => exact ⟨k + 1, hlt, by rw [LS2.out, if_neg HZ.out, if_neg hlu], by rw [decide_eq_true (by omega)], by go_num, HB⟩
          case measure => simp [intOf]; omega
    · have hlt2 : ¬ (k : Int) < (L.length : Int) := by omega
      have hke : k = L.length := by omega
      have END : Hid (Gives (.tuple #[.int .i64 (nextL L), .bool nb]) w (.returned (.tuple #[.int .i64 (lsn k), .bool (decide (0 < k))])) wr) := hide ⟨by
        rw [hke, ← HLS.out, LE.out, NB1.out], HB.out⟩
      clear HTk hke
      generalize decide (0 < k) = dk at *
      go_wp2
      go_ret2
      exact END.out
theorem filt_snoc {P : Ls → Bool} {k : Nat} {y : Ls} (hy : L[k]? = some y) : (L.take (k + 1)).filter P = if P y = true then (L.take k).filter P ++ [y] else (L.take k).filter P := by
  rw [List.take_add_one, hy, List.filter_append]
  simp only [Option.toList_some, List.filter_cons, List.filter_nil]
  cases P y <;> simp
theorem filt_len (P : Ls → Bool) (k : Nat) : ((L.take k).filter P).length ≤ k := Nat.le_trans (List.length_filter_le _ _) (by rw [List.length_take]; omega)
set_option maxRecDepth 100000 in
set_option maxHeartbeats 4000000 in
theorem rclient_any {u c : Nat} {p : Option Go.Addr} (h : RTab w u p c L) (hn : L.length ≤ 2000) (cl : ByteArray) : Calls Tryz.prog 30 #[Pt u, .string cl] w (LsPost2 w (L.filter (clientB cl))) := by
  have HT := hide h
  have OE := hide (ownL_empty w)
  have B1 := hide (below_alloc w (.cells #[] 30))
  clear h
  go_enter Tryz.func30, Tryz.ntmps30
  go_wp2_with fail
  go_loopw [5, 6] (fun out ii wr => ∃ (k : Nat) (ov : Value), k ≤ L.length ∧ ov = out ∧ ii = .int .i64 (k : Nat) ∧ Hid (OwnL wr w.heap.size ov ((L.take k).filter (clientB cl))) ∧ Hid (Below w.heap.size w wr)) (fun _ ii => fun _ => L.length - (intOf ii).toNat)
  case atStart => exact ⟨0, _, Nat.zero_le _, rfl, rfl, OE, B1⟩
  case round =>
    clear OE B1
    obtain ⟨k, ov, hk, rfl, rfl, HO, HB⟩ := hrel
    have hk0 : (0 : Int) ≤ (k : Int) := by omega
    have HTk := HT.out.step HB.out
    have c0 := HTk.cell
    by_cases hlt : k < L.length
    · have hlt2 : (k : Int) < (L.length : Int) := by omega
      obtain ⟨y, hy⟩ : ∃ y, L[k]? = some y := ⟨_, List.getElem?_eq_getElem hlt⟩
      have HS := hide (filt_snoc (P := clientB cl) hy)
      have HN := hide (filt_len (L := L) (clientB cl) k)
      obtain ⟨b, o, rfl, y0, y1, y2, y3, y4, y5, y6, y7⟩ := HTk.lst k y hy
      have HBS := HB.out.size
      generalize (L.take k).filter (clientB cl) = F at *
      clear HTk hy
      by_cases h1 : y.st = 1
      · have e1 : (y.st == 1) = true := by rw [beq_iff_eq]; exact h1
        by_cases h2 : y.cl = cl
        · have e2 : (y.cl.toList == cl.toList) = true := by rw [bytes_ne]; exact decide_eq_true h2
          have HS2 := hide (show (L.take (k + 1)).filter (clientB cl) = F ++ [y] by rw [HS.out, if_pos (by unfold clientB; exact decide_eq_true ⟨h1, h2⟩)])
          clear h1 h2 HS
          go_wp2_with (at_builtin; refine wpList_pushL rfl (.tmp 42) (.tmp 50) rfl w.heap.size ov F rfl y wr rfl HO.out rfl (by have := HN.out; omega) HBS ?_; intro v5 w5 O5 Z5)
          go_roundw
          case rel => exact ⟨k + 1, v5, hlt, rfl, by go_num, by rw [HS2.out]; exact hide O5, hide (HB.out.trans Z5)⟩
          case measure => simp [intOf]; omega
        · have e2 : (y.cl.toList == cl.toList) = false := by rw [bytes_ne]; exact decide_eq_false h2
          have HS2 := hide (show (L.take (k + 1)).filter (clientB cl) = F by rw [HS.out, if_neg (by unfold clientB; simp [h2])])
          clear h1 h2 HS
          go_wp2
          go_roundw
          case rel => exact ⟨k + 1, ov, hlt, rfl, by go_num, by rw [HS2.out]; exact HO, HB⟩
          case measure => simp [intOf]; omega
      · have e1 : (y.st == 1) = false := by rw [beq_eq_false_iff_ne]; exact h1
        have HS2 := hide (show (L.take (k + 1)).filter (clientB cl) = F by rw [HS.out, if_neg (by unfold clientB; simp [h1])])
        clear h1 HS
        go_wp2
        go_roundw
        case rel => exact ⟨k + 1, ov, hlt, rfl, by go_num, by rw [HS2.out]; exact HO, HB⟩
        case measure => simp [intOf]; omega
    · have hlt2 : ¬ (k : Int) < (L.length : Int) := by omega
      have HF := hide (show OwnL wr w.heap.size ov (L.filter (clientB cl)) by have := HO.out; rwa [show k = L.length by omega, List.take_length] at this)
      have END : Hid (LsPost2 w (L.filter (clientB cl)) (.returned ov) wr) := hide ⟨ov, rfl, ownL_res HF.out, HB.out, ownL_nil HF.out⟩
      clear HF HO HTk
      go_wp2
      go_ret
      exact END.out
set_option maxRecDepth 100000 in
set_option maxHeartbeats 4000000 in
theorem rmeets9_any {u c : Nat} {p : Option Go.Addr} (h : RTab w u p c L) (hn : L.length ≤ 2000) (hok : ∀ y ∈ L, y.ok) (kd : Int) {q : Nat} (hq : Fits q) (n : Int) : Calls Tryz.prog 32 #[Pt u, .int .i64 kd, Pv q n] w (LsPost2 w (L.filter (meetsB kd q n))) := by
  have HT := hide h
  have OKL := hide hok
  have HQ := hide hq
  have HB0 := hide (below_alloc w (.cells #[.int .u64 (hi q : Nat), .int .u64 (lo q : Nat), .int .i64 n] 27))
  have QB := hide (heap_alloc_new w (.cells #[.int .u64 (hi q : Nat), .int .u64 (lo q : Nat), .int .i64 n] 27))
  clear h hok hq
  go_enter Tryz.func32, Tryz.ntmps32
  go_upto_region 1 with fail
  generalize w.alloc (.cells #[.int .u64 (hi q : Nat), .int .u64 (lo q : Nat), .int .i64 n] 27) = V at *
  have OE := hide (ownL_empty V)
  have HB1 := hide (below_alloc V (.cells #[] 30))
  go_wp2_with fail
  go_loopw [7, 8] (fun out ii wr => ∃ (k : Nat) (ov : Value), k ≤ L.length ∧ ov = out ∧ ii = .int .i64 (k : Nat) ∧ Hid (OwnL wr V.heap.size ov ((L.take k).filter (meetsB kd q n))) ∧ Hid (Below V.heap.size V wr)) (fun _ ii => fun _ => L.length - (intOf ii).toNat)
  case atStart => exact ⟨0, _, Nat.zero_le _, rfl, rfl, OE, HB1⟩
  case round =>
    clear OE HB1
    obtain ⟨k, ov, hk, rfl, rfl, HO, HB⟩ := hrel
    have hk0 : (0 : Int) ≤ (k : Int) := by omega
    have HTk := (HT.out.step HB0.out).step HB.out
    have c0 := HTk.cell
    by_cases hlt : k < L.length
    · have hlt2 : (k : Int) < (L.length : Int) := by omega
      obtain ⟨y, hy⟩ : ∃ y, L[k]? = some y := ⟨_, List.getElem?_eq_getElem hlt⟩
      have HS := hide (filt_snoc (P := meetsB kd q n) hy)
      have HN := hide (filt_len (L := L) (meetsB kd q n) k)
      have oky := OKL.out y (List.mem_of_getElem? hy)
      have MT := hide (fun W => rmeet_any kd HQ.out n y.kind oky.p y.n W)
      have ME := hide (show meetS kd q n y.kind y.p y.n = meetsB kd q n y from rfl)
      obtain ⟨b, o, rfl, hat⟩ := HTk.lst k y hy
      have HY := hide (fun W (H : NB wr W) => hat.st H)
      have TW := hide (fun W (H : NB wr W) => (HTk.step H).cell)
      have QW := hide (fun W (H : NB wr W) => (Fr.ofBelow (chain HB.out H)).keep QB.out (fun e => e))
      have TH := hide HTk
      generalize meetS kd q n y.kind y.p y.n = ms at *
      generalize (L.take k).filter (meetsB kd q n) = F at *
      clear HTk hy hat oky
      go_wp2_with fail
      refine wp_region_quiet (C := NB wr) (by kernel_rfl) (by kernel_rfl) (below_drew wr) (wpQuiet_step (fun K0 hK0 => ?_))
      go_simp
      first | (with_reducible refine hK0 _ (wpQuiet_step (fun K1 hK1 => ?_))) | (with_reducible refine ⟨_, fun _ _ => rfl, hK0 _ (wpQuiet_step (fun K1 hK1 => ?_))⟩) | (rw [if_neg (by intro e; cases e)]; with_reducible refine hK0 _ (wpQuiet_step (fun K1 hK1 => ?_)))
      clear hK0 K0
      go_simp
      refine ⟨Pv q n, fun W hW => ?_, hK1 _ (wpQuiet_step (fun K0 hK0 => ?_))⟩
      · ((have u0 := QW.out W hW; have a0 := cell_at u0 0; have a1 := cell_at u0 1; have a2 := cell_at u0 2; simp at a0 a1 a2; simp [go_sem, a0, a1, a2]))
      clear hK1 K1
      go_simp
      first | (with_reducible refine hK0 _ (wpQuiet_step (fun K1 hK1 => ?_))) | (with_reducible refine ⟨_, fun _ _ => rfl, hK0 _ (wpQuiet_step (fun K1 hK1 => ?_))⟩) | (rw [if_neg (by intro e; cases e)]; with_reducible refine hK0 _ (wpQuiet_step (fun K1 hK1 => ?_)))
      clear hK0 K0
      go_simp
      first | (with_reducible refine hK1 _ (wpQuiet_step (fun K0 hK0 => ?_))) | (with_reducible refine ⟨_, fun _ _ => rfl, hK1 _ (wpQuiet_step (fun K0 hK0 => ?_))⟩) | (rw [if_neg (by intro e; cases e)]; with_reducible refine hK1 _ (wpQuiet_step (fun K0 hK0 => ?_)))
      clear hK1 K1
      go_simp
      first | (with_reducible refine hK0 _ (wpQuiet_step (fun K1 hK1 => ?_))) | (with_reducible refine ⟨_, fun _ _ => rfl, hK0 _ (wpQuiet_step (fun K1 hK1 => ?_))⟩) | (rw [if_neg (by intro e; cases e)]; with_reducible refine hK0 _ (wpQuiet_step (fun K1 hK1 => ?_)))
      clear hK0 K0
      go_simp
      refine ⟨.slice (some ⟨b, o, none⟩) L.length c, fun W hW => ?_, hK1 _ (wpQuiet_step (fun K0 hK0 => ?_))⟩
      · ((have u0 := TW.out W hW; simp [go_sem, u0]))
      clear hK1 K1
      go_simp
      first | (with_reducible refine hK0 _ (wpQuiet_step (fun K1 hK1 => ?_))) | (with_reducible refine ⟨_, fun _ _ => rfl, hK0 _ (wpQuiet_step (fun K1 hK1 => ?_))⟩) | (rw [if_neg (by intro e; cases e)]; with_reducible refine hK0 _ (wpQuiet_step (fun K1 hK1 => ?_)))
      clear hK0 K0
      go_simp
      first | (with_reducible refine hK1 _ (wpQuiet_step (fun K0 hK0 => ?_))) | (with_reducible refine ⟨_, fun _ _ => rfl, hK1 _ (wpQuiet_step (fun K0 hK0 => ?_))⟩) | (rw [if_neg (by intro e; cases e)]; with_reducible refine hK1 _ (wpQuiet_step (fun K0 hK0 => ?_)))
      clear hK1 K1
      go_simp
      first | (with_reducible refine hK0 _ (wpQuiet_step (fun K1 hK1 => ?_))) | (with_reducible refine ⟨_, fun _ _ => rfl, hK0 _ (wpQuiet_step (fun K1 hK1 => ?_))⟩) | (rw [if_neg (by intro e; cases e)]; with_reducible refine hK0 _ (wpQuiet_step (fun K1 hK1 => ?_)))
      clear hK0 K0
      go_simp
      refine ⟨.int .i64 y.kind, fun W hW => ?_, hK1 _ (wpQuiet_step (fun K0 hK0 => ?_))⟩
      · ((obtain ⟨u0, u1, u2, u3, u4, u5, u6, u7⟩ := HY.out W hW; simp [go_sem, u0]))
      clear hK1 K1
      go_simp
      first | (with_reducible refine hK0 _ (wpQuiet_step (fun K1 hK1 => ?_))) | (with_reducible refine ⟨_, fun _ _ => rfl, hK0 _ (wpQuiet_step (fun K1 hK1 => ?_))⟩) | (rw [if_neg (by intro e; cases e)]; with_reducible refine hK0 _ (wpQuiet_step (fun K1 hK1 => ?_)))
      clear hK0 K0
      go_simp
      first | (with_reducible refine hK1 _ (wpQuiet_step (fun K0 hK0 => ?_))) | (with_reducible refine ⟨_, fun _ _ => rfl, hK1 _ (wpQuiet_step (fun K0 hK0 => ?_))⟩) | (rw [if_neg (by intro e; cases e)]; with_reducible refine hK1 _ (wpQuiet_step (fun K0 hK0 => ?_)))
      clear hK1 K1
      go_simp
      first | (with_reducible refine hK0 _ (wpQuiet_step (fun K1 hK1 => ?_))) | (with_reducible refine ⟨_, fun _ _ => rfl, hK0 _ (wpQuiet_step (fun K1 hK1 => ?_))⟩) | (rw [if_neg (by intro e; cases e)]; with_reducible refine hK0 _ (wpQuiet_step (fun K1 hK1 => ?_)))
      clear hK0 K0
      go_simp
      refine ⟨.slice (some ⟨b, o, none⟩) L.length c, fun W hW => ?_, hK1 _ (wpQuiet_step (fun K0 hK0 => ?_))⟩
      · ((have u0 := TW.out W hW; simp [go_sem, u0]))
      clear hK1 K1
      go_simp
      first | (with_reducible refine hK0 _ (wpQuiet_step (fun K1 hK1 => ?_))) | (with_reducible refine ⟨_, fun _ _ => rfl, hK0 _ (wpQuiet_step (fun K1 hK1 => ?_))⟩) | (rw [if_neg (by intro e; cases e)]; with_reducible refine hK0 _ (wpQuiet_step (fun K1 hK1 => ?_)))
      clear hK0 K0
      go_simp
      first | (with_reducible refine hK1 _ (wpQuiet_step (fun K0 hK0 => ?_))) | (with_reducible refine ⟨_, fun _ _ => rfl, hK1 _ (wpQuiet_step (fun K0 hK0 => ?_))⟩) | (rw [if_neg (by intro e; cases e)]; with_reducible refine hK1 _ (wpQuiet_step (fun K0 hK0 => ?_)))
      clear hK1 K1
      go_simp
      first | (with_reducible refine hK0 _ (wpQuiet_step (fun K1 hK1 => ?_))) | (with_reducible refine ⟨_, fun _ _ => rfl, hK0 _ (wpQuiet_step (fun K1 hK1 => ?_))⟩) | (rw [if_neg (by intro e; cases e)]; with_reducible refine hK0 _ (wpQuiet_step (fun K1 hK1 => ?_)))
      clear hK0 K0
      go_simp
      refine ⟨Pv y.p y.n, fun W hW => ?_, hK1 _ (wpQuiet_step (fun K0 hK0 => ?_))⟩
      · ((obtain ⟨u0, u1, u2, u3, u4, u5, u6, u7⟩ := HY.out W hW; simp [go_sem, u1, u2, u3]))
      clear hK1 K1
      go_simp
      refine ⟨.bool ms, fun W hW => ?_, hK0 _ (wpQuiet_nil ?_)⟩
      · exact (MT.out W).mono fun e w2 ⟨he, hb⟩ => ⟨he, NB.step hW hb⟩
      clear hK0 K0
      intro w2 H2
      have HB2 := hide (HB.out.trans (H2.mono HB.out.size))
      have HO2 := hide (ownL_below HO.out H2)
      have HBS := HB2.out.size
      obtain ⟨u0, u1, u2, u3, u4, u5, u6, u7⟩ := HY.out w2 H2
      have c2 := TW.out w2 H2
      cases ms with
      | true =>
        have HS2 := hide (show (L.take (k + 1)).filter (meetsB kd q n) = F ++ [y] by rw [HS.out, if_pos ME.out.symm])
        clear HS ME HO HB HY TW QW TH MT H2 c0
        go_wp2_with (at_builtin; refine wpList_pushL rfl (.tmp 42) (.tmp 50) rfl V.heap.size ov F rfl y w2 rfl HO2.out rfl (by have := HN.out; omega) HBS ?_; intro v5 w5 O5 Z5)
        go_roundw
        case rel => exact ⟨k + 1, v5, hlt, rfl, by go_num, by rw [HS2.out]; exact hide O5, hide (HB2.out.trans Z5)⟩
        case measure => simp [intOf]; omega
      | false =>
        have HS2 := hide (show (L.take (k + 1)).filter (meetsB kd q n) = F by rw [HS.out, if_neg (by rw [← ME.out]; decide)])
        clear HS ME HO HB HY TW QW TH MT H2 c0
        go_wp2
        go_roundw
        case rel => exact ⟨k + 1, ov, hlt, rfl, by go_num, by rw [HS2.out]; exact HO2, HB2⟩
        case measure => simp [intOf]; omega
    · have hlt2 : ¬ (k : Int) < (L.length : Int) := by omega
      have HF := hide (show OwnL wr V.heap.size ov (L.filter (meetsB kd q n)) by have := HO.out; rwa [show k = L.length by omega, List.take_length] at this)
      have END : Hid (LsPost2 w (L.filter (meetsB kd q n)) (.returned ov) wr) := hide ⟨ov, rfl, (ownL_res HF.out).older HB0.out.size, chain HB0.out HB.out, ownL_nil HF.out⟩
      clear HF HO HTk
      go_wp2
      go_ret
      exact END.out
end Go.Proofs.YtpldkgollhbolaaGreat
