/-
  The contract of Off: a loss of power takes from each file what it takes, in whatever order. Condition: an int is one of 64 bits.
-/
import Derived.Test.YtnaedngbcndakaaFilE
namespace Go.Proofs.Ytnaedngbcndakaa
open Go.RowKit Go.Maps

variable {w w' : World} {d m : Nat} {O : Nat → Prop} {D : DataW Unit} {fb : Nm → Nat} {sv : Nm → Value} {s : Dk}
theorem off_nil (keep : Int) (w : World) : Calls Try.prog 23 #[.pointer none, .int .i64 keep] w (Same (.tuple #[]) w) := by
  go_enter Try.func23, Try.ntmps23
  go_wp2
  go_end0
  exact ⟨rfl, rfl⟩
theorem off_down (h : IsDsk w d O s) (hd : s.down = true) (keep : Int) : Calls Try.prog 23 #[Pt d, .int .i64 keep] w (Same (.tuple #[]) w) := by
  obtain ⟨m, D, fb, sv, h⟩ := h
  obtain ⟨l, _, _, _, c1, _⟩ := h.cells
  rw [hd] at c1
  clear hd h
  go_enter Try.func23, Try.ntmps23
  go_wp2
  go_end0
  exact ⟨rfl, rfl⟩
def leftN (left : Lit → Bool) : Nm → Bool := fun x => left (.string x)
theorem left_next (left : Lit → Bool) (x : Nm) : leftN (fun z => left z && !z.sameKey (.string x)) = fun y => leftN left y && decide (y ≠ x) := by
  funext y
  unfold leftN
  have e : (Lit.string y).sameKey (.string x) = decide (y = x) := by
    rw [Bool.eq_iff_iff]; simp [Lit.sameKey]
  show (left (.string y) && !(Lit.string y).sameKey (.string x)) = _
  rw [e]
  by_cases h : y = x <;> simp [h]
theorem Dsk.sets (h : Dsk w d m O D fb sv s) {s' : Dk} (k : Fr (fun i => i = d) w w') (hz : w'.heap.size = w.heap.size) (hfs : s'.fs = s.fs) (hok : DkOk s') {l : Int} (hd : DiskAt w' d m s' l) : Dsk w' d m O D fb sv s' := by
  have := h.redisk k hfs hok hd
  refine ⟨this.ok, this.disk, this.map, this.keys, this.file, this.inj, ⟨h.own.1, h.own.2.1, fun x hx => ?_⟩, fun i hi => by rw [hz]; exact h.lt i hi⟩
  rw [hfs] at hx
  exact h.own.2.2 x hx
/-- in the midst of the loop -/
def Mid (w : World) (d m r : Nat) (O : Nat → Prop) (D : DataW Unit) (fb : Nm → Nat) (s : Dk) (keep : Int) (wr : World) : Prop :=
  ∃ left cnt sv, wr.ranges Try.prog 9 ptrElem m r (Maps.size D) D left cnt ∧ Dsk wr d m O D fb sv { s with fs := partF keep (leftN left) s.fs } ∧ Fr O w wr
set_option maxRecDepth 100000 in
set_option maxHeartbeats 2000000 in
theorem off_any (h : IsDsk w d O s) (hdn : s.down = false) {keep : Int} (hk : I64 keep) :
    Calls Try.prog 23 #[Pt d, .int .i64 keep] w (Acts w d O (.tuple #[]) (offD s keep)) := by
  have HI := hide h.lt
  obtain ⟨m, D, fb, sv, h⟩ := h
  obtain ⟨l, _, _, c0, c1, _⟩ := h.cells
  rw [hdn] at c1
  have H := hide h
  have HM := hide h.map
  have HDN := hide hdn
  clear hdn h
  go_enter Try.func23, Try.ntmps23
  go_wp2_with (first
    | (at_range; refine wpList_range_own _ rfl _ 70 rfl 9 79 KS Try.underlying70 ptrElem m _ D rfl HM.out ?_; intro w0 hrg0 hg0 hs0)
    | go_in)
  go_frame
  have hrlt : m < w.heap.size := HM.out.lt
  go_loopw [5] (fun _ wr => Mid w d m w.heap.size O D fb s keep wr) (fun _ wr => wr.rangeLeft m w.heap.size)
  case atStart =>
    refine ⟨_, _, sv, hrg0, ?_, (Fr.grown hg0).mono (fun i _ e => by cases e)⟩
    have := H.out.fr (Fr.grown hg0) (fun i _ e => by cases e)
    rw [show partF keep (leftN (has D)) s.fs = s.fs from part_start (fun x => H.out.keys x)]
    exact this
  case round =>
    obtain ⟨left, cnt, sv2, hrg, hD, hF⟩ := hrel
    have HD := hide hD
    clear hD
    go_wp2_with (first
      | (at_next; refine wpList_next_ranges _ rfl _ rfl 9 KS ptrElem encStr Value.pointer (fun key kl hk => by obtain ⟨x, hx, _⟩ := Maps.keyOf_str Try.underlying9 hk; exact ⟨x, hx⟩) ptr_inv m w.heap.size _ _ _ _ rfl hrg ?_ ?_)
      | go_in)
    · intro hc0 hl0
      have HD2 : Dsk wr d m O D fb sv2 { s with fs := s.fs.map (lose keep) } := by
        have := HD.out
        rwa [show partF keep (leftN left) s.fs = s.fs.map (lose keep) from part_end (fun x => hl0 (.string x))] at this
      have HD := hide HD2
      obtain ⟨l2, d1, d2, d3⟩ := HD2.disk
      have D1 := hide d1
      have f1 := free_at d1 1
      have f2 := free_at d1 2
      have k1 := cell_at d1 1
      have k2 := cell_at d1 2
      simp at k1 k2
      clear HD2 d1 hl0 hc0 hrg c0 c1
      go_wp2
      go_end0
      have Fst : Fr (fun i => i = d) wr ((wr.setCell ⟨d, 1, none⟩ (.bool true)).setCell ⟨d, 2, none⟩ (.int .i64 (-1))) := (Fr.set wr ⟨d, 1, none⟩ _).trans (Fr.set _ ⟨d, 2, none⟩ _) (fun i _ e => e)
      have HF2 := hF.trans Fst (fun i _ e => by rw [e]; exact HD.out.own.1)
      refine ⟨rfl, HF2, ?_⟩
      refine IsDsk.wider ⟨m, D, fb, sv2, HD.out.sets Fst (by simp) (s' := offD s keep) rfl (H.out.ok.off keep) (l := -1) ⟨?_, Or.inl rfl, by omega⟩⟩ (fun _ e => Or.inl e) (gr_lt HI.out HF2.size)
      rw [set_block (set_block D1.out 1 _) 2]
      rfl
    · intro x c kl yd yp w2 cnt2 hkey hlk hv hat hrg2 hlt hg2 hs2 hen
      obtain ⟨x', ex, rfl, _⟩ := Maps.keyOf_str Try.underlying9 hkey
      obtain rfl : x = x' := encStr_inj ex
      have hD2 : Dsk w2 d m O D fb sv2 { s with fs := partF keep (leftN left) s.fs } := HD.out.fr (Fr.grown hg2) (fun i hi e => by have := HI.out i hi; cases e; exact Nat.lt_irrefl _ this)
      have hh := hD2.keys x
      rw [has_true_of_atKey hat] at hh
      obtain ⟨f, hf⟩ : ∃ f, find s.fs x = some f := by
        have : (find (partF keep (leftN left) s.fs) x).isSome = true := hh.symm
        rw [find_part] at this
        cases hq : find s.fs x with
        | none => rw [hq] at this; cases this
        | some f => exact ⟨f, rfl⟩
      have hfp : find (partF keep (leftN left) s.fs) x = some f := by
        rw [find_part, hf, Option.map_some, find_name hf, if_pos (show leftN left x = true from hlk)]
      obtain ⟨g1, g2⟩ := hD2.file x f hfp
      have ey : yd = .lit (.int .i64 (fb x)) := (hat .nil).symm.trans (g1 .nil)
      subst ey
      obtain rfl : c = some ⟨fb x, 0, none⟩ := by simpa using ptr_lit hv
      have hfo : FlOk f := H.out.ok.ok f (find_mem hf)
      have LA := hide (lose_any g2 hfo hk)
      obtain ⟨es, clk, since, seen, cc, hbm, _, _, _, hbr, _⟩ := id hrg2
      have hrf : w.heap.size ≠ fb x := fun e => by
        have := g2.1
        rw [← e, hbr] at this; simp at this
      have hmf : m ≠ fb x := fun e => by
        have := g2.1
        rw [← e, hbm] at this; simp at this
      have HD2 := hide hD2
      have HFP := hide hfp
      have HRG := hide hrg2
      have HRO := hide hrg
      have HLT := hide hlt
      have HG := hide (Fr.grown hg2)
      have HNE := hide hrf
      have HMF := hide hmf
      clear hs2 hat hh g1 g2 hbm hbr hrg hrg2 hlt hg2 hrf hmf hD2 hfp hkey hlk hv
      go_wp2_with (go_at_call 51; refine LA.out.mono ?_; rintro e w3 ⟨rfl, G⟩)
      obtain ⟨G1, v', G3, G4⟩ := G
      have D3 := HD2.out.refileO HFP.out G1 (fun i _ e => Or.inl e) G3 ((lose_name keep f).trans (find_name hf)) (lose_ok hfo) (fun i hi => Or.inl (G4 i hi)) (fun _ e => e) (fun i hi => (HD2.out.own.2.2 x (by rw [HFP.out]; rfl)).2 i (G4 i hi)) (fun i hi => Nat.lt_of_lt_of_le (HD2.out.lt i hi) G1.size)
      have R3 := ranges_fr HRG.out G1 HMF.out HNE.out
      have F3 : Fr O w w3 := (hF.trans HG.out (fun i hi e => by cases e; exact absurd hi (Nat.lt_irrefl _))).trans G1 (fun i _ e => by rw [e]; exact (HD2.out.own.2.2 x (by rw [HFP.out]; rfl)).1)
      have EP := part_step (keep := keep) (left := leftN left) H.out.ok.srt hf
      go_roundw
      case rel =>
        refine ⟨_, cnt2, upd sv2 x v', R3, ?_, F3⟩
        rw [left_next, ← EP]
        exact D3
      case measure => rw [R3.left_eq, HRO.out.left_eq]; exact HLT.out
end Go.Proofs.Ytnaedngbcndakaa
