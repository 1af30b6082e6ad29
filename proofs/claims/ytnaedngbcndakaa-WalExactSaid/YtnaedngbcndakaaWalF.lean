/-
  The contracts of the frames' iterator and of Scan. Condition: the bytes are fewer than 2^40.
-/
import Derived.Test.YtnaedngbcndakaaWalA
import Derived.RangeFuncNested
import Derived.RangeFuncBound
import Derived.RangeFuncCalls
import Derived.RangeFuncLeaves
import Derived.Shelf.Abstract
import Derived.Shelf.RegionOpen
import Derived.WalkKit
import Derived.OwnWalkIn
import Derived.TacticsInMore
import Derived.LoopNIn
import Derived.LoopIn
import Derived.Maps.AppendAt
import Derived.Sort.QuietIn
namespace Go.Proofs.Ytnaedngbcndakaa
open Go.RowKit Go.Shelf
attribute [local go_sem] Oper.semAt_some

abbrev encP (x : List UInt8 × Nat) : Array Value := #[St x.1, .int .i64 (x.2 : Int)]
/-- a round keeps what the iterator has captured -/
def KpB (b : Nat) (v : Value) (X Y : World) : Prop := X.cell? ⟨b, 0, none⟩ = some v → Y.cell? ⟨b, 0, none⟩ = some v
def boolOf : Value → Bool
  | .bool b => b
  | _ => false
def recV (b : List (List UInt8)) : List UInt8 := b.headD []
def endV (a b : List (List UInt8)) : Nat := match b with
  | [] => 0
  | p :: _ => sizeL a + 8 + p.length
def okV (b : List (List UInt8)) : Bool := !b.isEmpty
theorem take_scan {l : List UInt8} (hl : l.length ≤ 1099511627776) {a b : List (List UInt8)} (h : scanL l = a ++ b) (w : World) :
    Calls Try.prog 64 #[St l, .int .i64 (sizeL a : Nat)] w (Same (.tuple #[St (recV b), .int .i64 (endV a b : Nat), .bool (okV b)]) w) := by
  have := wtake_any l hl (sizeL a) (by have := size_le_len h; omega) w
  have e := scan_at h
  cases b with
  | nil => rw [takeV_none e] at this; exact this
  | cons p b => rw [takeV_some (p := p) e] at this; exact this
set_option maxRecDepth 100000 in
set_option maxHeartbeats 1000000 in
theorem frames1_in (n : Nat) (hn : 1 ≤ n) (lp Bn : Nat) (l : List UInt8) (hl : l.length ≤ 1099511627776) (J Jx : List (List UInt8 × Nat) → World → Prop)
    (hY : ∀ pre x W, J pre W → pre.length < (scanL l).length → YieldAt Fence.wide (n - 1) Try.prog lp (encP x) W fun e W' =>
      (e = .returned (.bool true) ∧ J (pre ++ [x]) W' ∧ KpB Bn (St l) W W') ∨ (e = .returned (.bool false) ∧ Jx (pre ++ [x]) W'))
    (W : World) (hBn : W.cell? ⟨Bn, 0, none⟩ = some (St l)) (h0 : J [] W) :
    CallsIn Fence.wide n Try.prog 63 #[.func (.yield lp) #[] #[], .pointer (some ⟨Bn, 0, none⟩)] W fun e W' => (∃ v, e = .returned v) ∧
      ((∃ ys, ys = pairsL 0 (scanL l) ∧ J ys W') ∨ (∃ pre, True ∧ Jx pre W')) := by
  have T := hide (fun a b (h : scanL l = a ++ b) W => take_scan hl h W)
  refine callsIn_of_wp Try.func63 rfl trivial ?_ rfl
  simp only [Try.ntmps63, List.size_toArray, List.length_cons, List.length_nil, Nat.reduceAdd, Nat.reduceSub, Array.replicate_succ, Array.replicate_zero, List.push_toArray, List.append_toArray, List.nil_append, List.cons_append]
  have T0 := hide (T.out [] (scanL l) rfl)
  rw [size_nil, show ((0 : Nat) : Int) = 0 from rfl] at T0
  have HY := hide hY
  clear hY
  gi_wp2_with (refine ⟨trivial, ?_⟩; gi_at_call 64; refine (callsIn_wide.2 (T0.out _)).mono ?_; rintro e w' ⟨rfl, rfl⟩)
  gi_loopw [3, 4, 5] (fun r e o wr => ∃ (a b : List (List UInt8)), Hid (scanL l = a ++ b) ∧ r = St (recV b) ∧ e = .int .i64 (endV a b : Nat) ∧ o = .bool (okV b) ∧ J (pairsL 0 a) wr ∧ wr.cell? ⟨Bn, 0, none⟩ = some (St l))
    (fun _ e o _ => if boolOf o = true then l.length + 1 - (intOf e).toNat else 0)
  case atStart => exact ⟨[], scanL l, hide rfl, rfl, rfl, rfl, h0, hBn⟩
  case round =>
    obtain ⟨a, b, HS, rfl, rfl, rfl, hJ, hc⟩ := hrel
    clear hBn h0
    cases b with
    | nil =>
      have hend := hide (show pairsL 0 a = pairsL 0 (scanL l) by rw [HS.out, List.append_nil])
      have e1 : okV [] = false := rfl
      rw [e1]
      clear e1
      gi_wp2
      refine ⟨fun _ h => (by cases h), ?_⟩
      gi_wp2
      go_end0
      exact ⟨⟨_, rfl⟩, .inl ⟨_, hend.out, hJ⟩⟩
    | cons p b =>
      have e1 : okV (p :: b) = true := rfl
      have e2 : recV (p :: b) = p := rfl
      have e3 : endV a (p :: b) = sizeL a + 8 + p.length := rfl
      rw [e1, e2, e3]
      clear e1 e2 e3
      have hb := size_le_len HS.out
      rw [size_cons] at hb
      have hee : sizeL a + 8 + p.length ≤ l.length := by omega
      have hs1 : sizeL (a ++ [p]) = sizeL a + 8 + p.length := by rw [size_snoc]; omega
      have HS2 := hide (show scanL l = (a ++ [p]) ++ b by rw [HS.out]; simp)
      have T1 := hide (T.out _ _ HS2.out)
      have PE := hide (show pairsL 0 (a ++ [p]) = pairsL 0 a ++ [(p, sizeL a + 8 + p.length)] by rw [pairs_snoc]; simp)
      have hR := HY.out (pairsL 0 a) (p, sizeL a + 8 + p.length) wr hJ (by rw [pairs_length, HS.out, List.length_append, List.length_cons]; omega)
      have E3 := hide (show endV (a ++ [p]) b ≤ l.length by
        have := size_le_len HS2.out
        cases b with
        | nil => exact Nat.zero_le _
        | cons q b => rw [size_cons] at this; show sizeL (a ++ [p]) + 8 + q.length ≤ _; omega)
      have E4 := hide (show okV b = true → sizeL (a ++ [p]) < endV (a ++ [p]) b by
        cases b with
        | nil => intro e; cases e
        | cons q b => intro _; show _ < sizeL (a ++ [p]) + 8 + q.length; omega)
      rw [hs1] at T1 E4
      generalize sizeL a + 8 + p.length = ee at *
      obtain ⟨e2, h2⟩ : ∃ e2, e2 = endV (a ++ [p]) b := ⟨_, rfl⟩
      rw [← h2] at T1 E3 E4
      have H2 := hide h2
      clear h2
      obtain ⟨fn, tmps, assign, body, hy, hR⟩ := hR
      dsimp only [encP] at hy
      gi_wp2
      refine hR.mono ?_
      rintro e W3 (⟨rfl, hJ3, hk3⟩ | ⟨rfl, hJx3⟩)
      · have hc3 := hk3 hc
        rw [← PE.out] at hJ3
        gi_wp2_with (refine ⟨trivial, ?_⟩; gi_at_call 64; refine (callsIn_wide.2 (T1.out _)).mono ?_; rintro e w' ⟨rfl, rfl⟩)
        go_roundw
        case rel => exact ⟨a ++ [p], b, HS2, rfl, by rw [H2.out], rfl, hJ3, hc3⟩
        case measure =>
          have k3 := E3.out
          have k4 := E4.out
          have m : ∀ (o : Bool) (x : Nat), (if boolOf (.bool o) = true then l.length + 1 - (intOf (.int .i64 (x : Int))).toNat else 0) = if o = true then l.length + 1 - x else 0 := fun _ _ => rfl
          rw [m, m, if_pos rfl]
          by_cases ho : okV b = true
          · rw [if_pos ho]
            have := k4 ho
            omega
          · rw [if_neg ho]
            omega
      · gi_wp2
        go_end0
        exact ⟨⟨_, rfl⟩, .inr ⟨_, trivial, hJx3⟩⟩
theorem frames_any {n : Nat} (l : List UInt8) (w : World) :
    CallsIn Fence.wide n Try.prog 42 #[St l] w fun e w' => e = .returned (.func (.func 63) #[] #[.pointer (some ⟨w.heap.size, 0, none⟩)]) ∧ w' = w.alloc (.cells #[St l] 9) := by
  refine callsIn_of_wp Try.func42 rfl trivial ?_ rfl
  simp only [Try.ntmps42, List.size_toArray, List.length_cons, List.length_nil, Nat.reduceAdd, Nat.reduceSub, Array.replicate_succ, Array.replicate_zero, List.push_toArray, List.append_toArray, List.nil_append, List.cons_append]
  gi_wp2
  go_ret
  exact ⟨rfl, rfl⟩
theorem frames_stops (n : Nat) (hn : 1 ≤ n) (Bn : Nat) (l : List UInt8) (hl : l.length ≤ 1099511627776) (w : World) (hB : Bn < w.heap.size) (hc : w.cell? ⟨Bn, 0, none⟩ = some (St l)) :
    SeqStopsK Fence.wide n Try.prog 63 #[.pointer (some ⟨Bn, 0, none⟩)] encP (KpB Bn (St l)) (fun ys => ys = pairsL 0 (scanL l)) (fun _ => True) (scanL l).length w := fun lp J Jx W hW _ _ hY h0 =>
  frames1_in n hn lp Bn l hl J Jx hY W ((hW.cell (p := ⟨Bn, 0, none⟩) hB).trans hc) h0
theorem kpB_t {b : Nat} {v : Value} {A B C : World} (h : KpB b v A B) (k : KpB b v B C) : KpB b v A C := fun e => k (h e)
theorem kpB_b {b : Nat} {v : Value} {w : World} (hb : b < w.heap.size) (W : World) (l : Nat) (o o' : Obj) (hl : w.heap.size ≤ l) (_ : W.heap[l]? = some o) (_ : o.isCells = false) (_ : o.isWalk = false) : KpB b v W (W.putObj l o') := fun e => by
  rw [World.cell?_of_block (a := ⟨b, 0, none⟩) (World.putObj_heap_other (by dsimp only; omega))]
  exact e
theorem row_ne {W : World} {base e size k b : Nat} {v : Value} {xs : List Value} (h : W.ownsRow base e size v k xs) (hb : b < base) : some b ≠ v.ownBlock := by
  rcases h.2 with ⟨rfl, _⟩ | ⟨g, cap, cur, rfl, hg, _⟩
  · simp [Value.ownBlock]
  · intro e2
    obtain rfl : b = g := by simpa [Value.ownBlock] using e2
    omega
theorem row_low {W : World} {base base' e size k : Nat} {v : Value} {xs : List Value} (h : W.ownsRow base e size v k xs) (hb : base' ≤ base) : W.ownsRow base' e size v k xs := by
  refine ⟨h.1, ?_⟩
  rcases h.2 with h2 | ⟨g, cap, cur, rfl, hg, h3⟩
  · exact Or.inl h2
  · exact Or.inr ⟨g, cap, cur, rfl, Nat.le_trans hb hg, h3⟩
theorem infoSt : (Try.prog.info? 9).map (fun i => (i.zero, i.size, i.bytes)) = some (some (.string ⟨#[]⟩), 1, 16) := by kernel_rfl
/-- a call that gives the records of bytes, and how many bytes their frames have -/
def GivesScan (l : List UInt8) (w : World) (e : Ending) (w' : World) : Prop := ∃ v, e = .returned (.tuple #[v, .int .i64 (sizeL (scanL l) : Nat)]) ∧ Below w.heap.size w w' ∧ w'.ownsRow w.heap.size 9 1 v (scanL l).length ((scanL l).map St)
set_option maxRecDepth 100000 in
set_option maxHeartbeats 2000000 in
theorem scan_any (l : List UInt8) (hl : l.length ≤ 1099511627776) (w : World) : Calls Try.prog 10 #[St l] w (GivesScan l w) := by
  obtain ⟨i0, hi, hz0, hz1, hz2⟩ := info_parts infoSt
  refine (callsIn_wide (n := 3)).1 ?_
  refine callsIn_of_wp_marks Try.func10 rfl trivial ?_ rfl
  simp only [Try.ntmps10, List.size_toArray, List.length_cons, List.length_nil, Nat.reduceAdd, Nat.reduceSub, Array.replicate_succ, Array.replicate_zero, List.push_toArray, List.append_toArray, List.nil_append, List.cons_append]
  gi_wp2_with (refine ⟨trivial, ?_⟩; gi_at_call 42; refine (frames_any l _).mono ?_; rintro e w' ⟨rfl, rfl⟩)
  have bO := Boxed.new w 26 (.slice none 0 0)
  have bS := Boxed.new (w.alloc (.cells #[.slice none 0 0] 26)) 3 (.int .i64 0)
  have bN := Boxed.new ((w.alloc (.cells #[.slice none 0 0] 26)).alloc (.cells #[.int .i64 0] 3)) 9 (St l)
  rw [World.size_alloc] at bS
  rw [World.size_alloc, World.size_alloc] at bN
  have hB0 : Below w.heap.size w (((w.alloc (.cells #[.slice none 0 0] 26)).alloc (.cells #[.int .i64 0] 3)).alloc (.cells #[St l] 9)) := (((Below.refl _ w).alloc (Nat.le_refl _) _).alloc (by simp) _).alloc (by simp; omega) _
  have hn := Nat.le_trans (show (scanL l).length ≤ l.length by
    have h1 : ∀ x : List (List UInt8), x.length ≤ sizeL x := fun x => by
      induction x with
      | nil => exact Nat.zero_le _
      | cons p x ih => rw [size_cons, List.length_cons]; omega
    exact Nat.le_trans (h1 _) (scan_size l)) hl
  refine wpIn_rangeFunc_ownG rfl (by omega) (gf := 63) (lb := #[.pointer (some ⟨w.heap.size + 1 + 1, 0, none⟩)]) rfl trivial (enters_of Try.func63 (by kernel_rfl) rfl)
    (frames_stops 2 (by omega) (w.heap.size + 1 + 1) l hl _ (by simp) bN.cell) kpB_t (kpB_b (by simp)) (Below.refl _ _) (fun _ => rfl)
    (fun pre W => (((∃ v, Boxed W w.heap.size 26 v ∧ W.ownsRow (w.heap.size + 1 + 1 + 1) 9 1 v pre.length (pre.map (fun x => St x.1)) ∧ True) ∧ Boxed W (w.heap.size + 1) 3 (.int .i64 (endL pre : Nat))) ∧ Boxed W (w.heap.size + 1 + 1) 9 (St l)) ∧ Below w.heap.size w W)
    (fun _ _ _ => False)
    (OwnFrom.and (OwnFrom.and (OwnFrom.and (Own.from (holdsRow_own (w.heap.size + 1 + 1 + 1) w.heap.size 26 9 1 (fun pre : List (List UInt8 × Nat) => pre.length) (fun pre => pre.map (fun x => St x.1)) (fun _ _ => True)) _) (Own.from (boxed_own _ _ (fun pre => .int .i64 (endL pre : Nat))) _)) (Own.from (boxed_own _ _ (fun _ => St l)) _)) (ownFrom_below (Nat.le_refl _) (by simp; omega)))
    (fun _ _ _ _ _ hs _ _ => hs)
    ⟨⟨⟨⟨_, (bO.alloc _).alloc _, World.ownsRow_nil _ _ _ _, trivial⟩, bS.alloc _⟩, bN⟩, hB0⟩
    (fun x => { tmps := #[St l, undef, .slice none 0 0, .int .i64 0, .pointer (some ⟨w.heap.size, 0, none⟩), .pointer (some ⟨w.heap.size + 1, 0, none⟩), St x.1, .int .i64 (x.2 : Int), St l, .func (.func 63) #[] #[.pointer (some ⟨w.heap.size + 1 + 1, 0, none⟩)], St x.1, .int .i64 (x.2 : Int), undef, undef, undef, undef, undef, undef, undef], defers := [] }) ?assign ?body ?done ?stop
  case assign =>
    intro lp x W K hK
    gi_wp2
    exact hK
  case body =>
    rintro lp pre x W ⟨⟨⟨⟨v, hv, hrow, _⟩, hs⟩, hb⟩, hB⟩ hlt
    have hc := hv.cell
    have hsz := hb.lt
    have HV := hide hv
    have HS := hide hs
    have HBX := hide hb
    have HR := hide hrow
    have HB := hide hB
    clear hv hs hb hB
    gi_wp2_with (gi_at_builtin; refine wpListIn_append_own _ rfl _ _ 26 rfl (w.heap.size + 1 + 1 + 1) 9 i0 (.string ⟨#[]⟩) 1 16 Try.underlying26 hi hz0 hz1 hz2 rfl (by decide) _ _ _ rfl (hrow.alloc _) ⟨W.heap.size, 0, none⟩ 1 1 [St x.1] rfl rfl (cell_one_new _ _ _) (by simp [Value.oneCell']) (by unfold maxLen; omega) (by omega) (by simp; omega) ?_; intro v' w1 hown' hgrow _; obtain ⟨g', cap', rfl⟩ := ownsRow_succ hown'; have hv1 := (HV.out.alloc (.cells #[St x.1] 9)).kept hgrow (row_ne HR.out (by omega)); have hs1 := (HS.out.alloc (.cells #[St x.1] 9)).kept hgrow (row_ne HR.out (by omega)); have hc1 := hv1.cell; have hf1 := hv1.frozen; have hc3 := hs1.cell; have hf3 := hs1.frozen)
    have hgrow : (W.alloc (.cells #[St x.1] 9)).grownBy w1 v.ownBlock := hgrow
    have hb1 := (HBX.out.alloc (.cells #[St x.1] 9)).kept hgrow (row_ne HR.out (by omega))
    have r1 := hown'.kept (grownBy_setCell' w1 w.heap.size (.slice (some ⟨g', 0, none⟩) (pre.length + 1) cap')) (.inr (row_ne hown' (by omega)).symm)
    have r2 := r1.kept (grownBy_setCell' _ (w.heap.size + 1) (.int .i64 (x.2 : Int))) (.inr (row_ne r1 (by omega)).symm)
    have b3 := (hb1.other (show w.heap.size + 1 + 1 ≠ w.heap.size by omega) (.slice (some ⟨g', 0, none⟩) (pre.length + 1) cap')).other (show w.heap.size + 1 + 1 ≠ w.heap.size + 1 by omega) (.int .i64 (x.2 : Int))
    have b2 := (hs1.other (show w.heap.size + 1 ≠ w.heap.size by omega) (.slice (some ⟨g', 0, none⟩) (pre.length + 1) cap')).set (.int .i64 (x.2 : Int))
    have b1 := (hv1.set (.slice (some ⟨g', 0, none⟩) (pre.length + 1) cap')).other (show w.heap.size ≠ w.heap.size + 1 by omega) (.int .i64 (x.2 : Int))
    have ko : KeepsOthers W ((w1.setCell ⟨w.heap.size, 0, none⟩ (.slice (some ⟨g', 0, none⟩) (pre.length + 1) cap')).setCell ⟨w.heap.size + 1, 0, none⟩ (.int .i64 (x.2 : Int))) := by
      refine (((KeepsOthers.alloc W (.cells #[St x.1] 9)).trans (KeepsOthers.of_grownBy hgrow fun j o ej hj => ?_)).trans (KeepsOthers.setCell _ _ _)).trans (KeepsOthers.setCell _ _ _)
      rcases (HR.out.alloc (.cells #[St x.1] 9)).2 with ⟨rfl, _⟩ | ⟨g, cap, cur, rfl, _, hgb, _⟩
      · simp [Value.ownBlock] at ej
      · obtain rfl : g = j := by simpa [Value.ownBlock] using ej
        rw [hgb] at hj; cases hj; rfl
    have bl : Below w.heap.size w ((w1.setCell ⟨w.heap.size, 0, none⟩ (.slice (some ⟨g', 0, none⟩) (pre.length + 1) cap')).setCell ⟨w.heap.size + 1, 0, none⟩ (.int .i64 (x.2 : Int))) := by
      refine (((HB.out.alloc HB.out.size (.cells #[St x.1] 9)).grown hgrow (by simp; omega) fun j ej => ?_).setCell (p := ⟨w.heap.size, 0, none⟩) (Nat.le_refl _) _).setCell (p := ⟨w.heap.size + 1, 0, none⟩) (by simp) _
      rcases HR.out.2 with ⟨rfl, _⟩ | ⟨g, cap, cur, rfl, hg, _, _⟩
      · simp [Value.ownBlock] at ej
      · obtain rfl : g = j := by simpa [Value.ownBlock] using ej
        omega
    exact ⟨ko.from _, fun _ => b3.cell, ⟨⟨⟨_, b1, by simpa using r2, trivial⟩, by rw [end_snoc]; exact b2⟩, b3⟩, bl⟩
  case done =>
    rintro D ys W hD rfl ⟨⟨⟨⟨v, hv, hrow, _⟩, hs⟩, _⟩, hB⟩ hK
    have hc := hv.cell
    have hc2 := hs.cell
    gi_wp2
    gi_quiet (fail)
    gi_wp2
    refine ⟨by simp, .inl ⟨_, _, rfl, run_takeDeferred (w := W.drewN nq) hK, ?_⟩⟩
    refine ⟨_, results_tmp2 rfl _ _ _, v, ?_, ?_, ?_⟩
    · rw [end_pairs]; rfl
    · exact (hB.trans ((below_drewN W nq).mono hB.size)).trans (belowK_b (w := w) (Nat.le_refl _) _ D _ _ (by simp at hD; omega) hK rfl rfl)
    · have h1 : (W.drewN nq).ownsRow (w.heap.size + 1 + 1 + 1) 9 1 v (pairsL 0 (scanL l)).length ((pairsL 0 (scanL l)).map (fun x => St x.1)) := hrow
      have h2 : (pairsL 0 (scanL l)).map (fun x => St x.1) = (scanL l).map St := by
        conv => rhs; rw [← pairs_fst (scanL l) 0]
        rw [List.map_map]; rfl
      rw [pairs_length, h2] at h1
      exact row_low (ownsRow_putObj h1 _ hK rfl) (by omega)
  case stop =>
    rintro D c pre W _ _ h _
    exact h.elim
end Go.Proofs.Ytnaedngbcndakaa
