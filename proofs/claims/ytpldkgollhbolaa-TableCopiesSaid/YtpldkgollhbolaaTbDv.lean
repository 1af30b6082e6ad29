/-
  The contracts of Due's order and of a table's Due: those whose end has come, by their ends, then in their order, in new memory. No condition.
-/
import Derived.Test.YtpldkgollhbolaaTbDu
namespace Go.Proofs.Ytpldkgollhbolaa
open Go.RowKit Go.Joins Go.Maps

variable {w w' V W W' : World} {t km om : Nat} {O : Nat → Prop} {v : Value} {E : List En} {L : List Ls}
def or2 (x y : Int) : Int := if x ≠ 0 then x else y
set_option maxRecDepth 100000 in
set_option maxHeartbeats 1000000 in
theorem or2_any (b : Nat) (x y : Int) (w : World) (h0 : w.cell? ⟨b, 0, none⟩ = some (.int .i64 x)) (h1 : w.cell? ⟨b, 1, none⟩ = some (.int .i64 y)) :
    Calls Try.prog 28 #[.slice (some ⟨b, 0, none⟩) 2 2] w (Same (.int .i64 (or2 x y)) w) := by
  by_cases hx : x = 0
  · subst hx
    by_cases hy : y = 0
    · subst hy
      go_enter Try.func28, Try.ntmps28
      go_wp2_with fail
      go_loopw [8] (fun i wr => ∃ k : Nat, k ≤ 2 ∧ i = .int .i64 k ∧ wr = w) (fun i _ => 2 - (intOf i).toNat)
      case atStart => exact ⟨0, by omega, rfl, rfl⟩
      case round =>
        obtain ⟨k, hk, rfl, rfl⟩ := hrel
        have : k = 0 ∨ k = 1 ∨ k = 2 := by omega
        rcases this with rfl | rfl | rfl
        · go_wp2
          go_roundw
          case rel => exact ⟨1, by omega, by go_num, by trivial⟩
          case measure => simp [intOf]
        · go_wp2
          go_roundw
          case rel => exact ⟨2, by omega, by go_num, by trivial⟩
          case measure => simp [intOf]
        · go_wp2
          go_ret
          exact ⟨rfl, rfl⟩
    · have K := hide (show or2 0 y = y from rfl)
      go_enter Try.func28, Try.ntmps28
      go_wp2_with fail
      go_loopw [8] (fun i wr => ∃ k : Nat, k ≤ 1 ∧ i = .int .i64 k ∧ wr = w) (fun i _ => 2 - (intOf i).toNat)
      case atStart => exact ⟨0, by omega, rfl, rfl⟩
      case round =>
        obtain ⟨k, hk, rfl, rfl⟩ := hrel
        have : k = 0 ∨ k = 1 := by omega
        rcases this with rfl | rfl
        · go_wp2
          go_roundw
          case rel => exact ⟨1, by omega, by go_num, by trivial⟩
          case measure => simp [intOf]
        · go_wp2
          go_ret
          exact ⟨congrArg Ending.returned (i64_eq K.out.symm), rfl⟩
  · have K := hide (show or2 x y = x by unfold or2; rw [if_pos hx])
    go_enter Try.func28, Try.ntmps28
    go_wp2_with fail
    go_loopw [8] (fun i wr => i = .int .i64 0 ∧ wr = w) (fun i _ => 2 - (intOf i).toNat)
    case atStart => exact ⟨rfl, rfl⟩
    case round =>
      obtain ⟨rfl, rfl⟩ := hrel
      go_wp2
      go_ret
      exact ⟨congrArg Ending.returned (i64_eq K.out.symm), rfl⟩
/-- by their ends, then in their order -/
def dueC (x y : Ls) : Int := or2 (cmpI x.un y.un) (cmpL x y)
theorem dueC_neg (x y : Ls) : dueC y x = - dueC x y := by
  unfold dueC or2
  rw [cmpL_neg x y]
  unfold cmpI
  repeat' split
  all_goals omega
theorem dueC_trans {x y z : Ls} (h : dueC x y ≤ 0) (k : dueC y z ≤ 0) : dueC x z ≤ 0 := by
  have a : ∀ u v : Ls, dueC u v ≤ 0 ↔ u.un < v.un ∨ (u.un = v.un ∧ cmpL u v ≤ 0) := fun u v => by
    unfold dueC or2 cmpI
    repeat' split
    all_goals omega
  rw [a] at *
  have c : cmpL x y ≤ 0 → cmpL y z ≤ 0 → cmpL x z ≤ 0 := fun h k => compare_trans (k1 := x.kind) (p1 := x.p) (n1 := x.n) h k
  omega
theorem dueC_zero {x y : Ls} (h : dueC x y = 0) : cmpL x y = 0 := by
  unfold dueC or2 at h
  split at h
  · rename_i hn; exact absurd h hn
  · exact h
theorem swo_due : Go.Sort.SWO (Go.Proofs.ltOf dueC) where
  irrefl x := by
    have : dueC x x = 0 := by have := dueC_neg x x; omega
    unfold ltOf; rw [this]; rfl
  trans x y z h1 h2 := by
    unfold ltOf at *; rw [decide_eq_true_iff] at *
    have a := dueC_trans (x := x) (y := y) (z := z) (by omega) (by omega)
    by_cases e : dueC x z = 0
    · have b := dueC_neg x z
      have := dueC_trans (x := y) (y := z) (z := x) (by omega) (by omega)
      have := dueC_neg x y
      omega
    · omega
  ntrans x y z h1 h2 := by
    unfold ltOf at *
    rw [decide_eq_false_iff_not] at *
    have a := dueC_neg x y
    have b := dueC_neg y z
    have c := dueC_neg x z
    have := dueC_trans (x := z) (y := y) (z := x) (by omega) (by omega)
    omega
structure XB (w : World) (x y : Ls) (W : World) : Prop where
  g : Grew w W
  a : W.heap[w.heap.size]? = some (.cells (leaseC x) 36 (0, 0))
  b : W.heap[w.heap.size + 1]? = some (.cells (leaseC y) 36 (0, 0))
theorem XB.step {x y : Ls} {W2 : World} (h : XB w x y W) (k : Grew W W2) : XB w x y W2 := ⟨h.g.trans k, (Fr.ofBelow k.1).keep h.a (fun e => e), (Fr.ofBelow k.1).keep h.b (fun e => e)⟩
def Cells8 (W : World) (b : Nat) (x : Ls) : Prop := W.cell? ⟨b, 0, none⟩ = some (.int .i64 x.kind) ∧ W.cell? ⟨b, 1, none⟩ = some (.int .u64 (hi x.p : Nat)) ∧ W.cell? ⟨b, 2, none⟩ = some (.int .u64 (lo x.p : Nat)) ∧ W.cell? ⟨b, 3, none⟩ = some (.int .i64 x.n) ∧
    W.cell? ⟨b, 4, none⟩ = some (.int .i64 x.st) ∧ W.cell? ⟨b, 5, none⟩ = some (.string x.cl) ∧ W.cell? ⟨b, 6, none⟩ = some (.int .u32 (x.ia : Int)) ∧ W.cell? ⟨b, 7, none⟩ = some (.int .i64 x.un)
theorem cells8 {b : Nat} {x : Ls} (h : W.heap[b]? = some (.cells (leaseC x) 36 (0, 0))) : Cells8 W b x := ⟨cell_at h 0, cell_at h 1, cell_at h 2, cell_at h 3, cell_at h 4, cell_at h 5, cell_at h 6, cell_at h 7⟩
theorem XB.new (w : World) (x y : Ls) : XB w x y ((w.alloc (.cells (leaseC x) 36)).alloc (.cells (leaseC y) 36)) :=
  ⟨(grew_alloc _ _).trans (grew_alloc _ _), (Fr.ofBelow (below_alloc _ _)).keep (heap_alloc_new w _) (fun e => e), alloc_at _ (by simp)⟩
theorem XB.all {x y : Ls} (h : XB w x y W) : XB w x y W ∧ W.cell? ⟨w.heap.size, 0, none⟩ = some (.int .i64 x.kind) ∧ W.cell? ⟨w.heap.size, 1, none⟩ = some (.int .u64 (hi x.p : Nat)) ∧ W.cell? ⟨w.heap.size, 2, none⟩ = some (.int .u64 (lo x.p : Nat)) ∧ W.cell? ⟨w.heap.size, 3, none⟩ = some (.int .i64 x.n) ∧
    W.cell? ⟨w.heap.size, 4, none⟩ = some (.int .i64 x.st) ∧ W.cell? ⟨w.heap.size, 5, none⟩ = some (.string x.cl) ∧ W.cell? ⟨w.heap.size, 6, none⟩ = some (.int .u32 (x.ia : Int)) ∧ W.cell? ⟨w.heap.size, 7, none⟩ = some (.int .i64 x.un) ∧
    W.cell? ⟨w.heap.size + 1, 0, none⟩ = some (.int .i64 y.kind) ∧ W.cell? ⟨w.heap.size + 1, 1, none⟩ = some (.int .u64 (hi y.p : Nat)) ∧ W.cell? ⟨w.heap.size + 1, 2, none⟩ = some (.int .u64 (lo y.p : Nat)) ∧ W.cell? ⟨w.heap.size + 1, 3, none⟩ = some (.int .i64 y.n) ∧
    W.cell? ⟨w.heap.size + 1, 4, none⟩ = some (.int .i64 y.st) ∧ W.cell? ⟨w.heap.size + 1, 5, none⟩ = some (.string y.cl) ∧ W.cell? ⟨w.heap.size + 1, 6, none⟩ = some (.int .u32 (y.ia : Int)) ∧ W.cell? ⟨w.heap.size + 1, 7, none⟩ = some (.int .i64 y.un) := by
  obtain ⟨a0, a1, a2, a3, a4, a5, a6, a7⟩ := cells8 h.a
  obtain ⟨b0, b1, b2, b3, b4, b5, b6, b7⟩ := cells8 h.b
  exact ⟨h, a0, a1, a2, a3, a4, a5, a6, a7, b0, b1, b2, b3, b4, b5, b6, b7⟩
set_option maxRecDepth 100000 in
set_option maxHeartbeats 2000000 in
theorem dueG_any (x y : Ls) (w : World) : Calls Try.prog 37 #[Lv x, Lv y] w (GivesG (.int .i64 (dueC x y)) w) := by
  have R := hide (show or2 (cmpI x.un y.un) (cmpL x y) = dueC x y from rfl)
  have TC := hide (fun W => tcompG_any x y W)
  generalize dueC x y = res at *
  generalize cmpL x y = cl at *
  have H := XB.new w x y
  go_enter Try.func37, Try.ntmps37
  go_wp2_with fail
  generalize hV : (w.alloc (.cells (leaseC x) 36)).alloc (.cells (leaseC y) 36) = V at *
  clear hV
  obtain ⟨_, a0, a1, a2, a3, a4, a5, a6, a7, b0, b1, b2, b3, b4, b5, b6, b7⟩ := H.all
  go_region_held3 (fun W => XB w x y W ∧ W.cell? ⟨w.heap.size, 0, none⟩ = some (.int .i64 x.kind) ∧ W.cell? ⟨w.heap.size, 1, none⟩ = some (.int .u64 (hi x.p : Nat)) ∧ W.cell? ⟨w.heap.size, 2, none⟩ = some (.int .u64 (lo x.p : Nat)) ∧ W.cell? ⟨w.heap.size, 3, none⟩ = some (.int .i64 x.n) ∧
    W.cell? ⟨w.heap.size, 4, none⟩ = some (.int .i64 x.st) ∧ W.cell? ⟨w.heap.size, 5, none⟩ = some (.string x.cl) ∧ W.cell? ⟨w.heap.size, 6, none⟩ = some (.int .u32 (x.ia : Int)) ∧ W.cell? ⟨w.heap.size, 7, none⟩ = some (.int .i64 x.un) ∧
    W.cell? ⟨w.heap.size + 1, 0, none⟩ = some (.int .i64 y.kind) ∧ W.cell? ⟨w.heap.size + 1, 1, none⟩ = some (.int .u64 (hi y.p : Nat)) ∧ W.cell? ⟨w.heap.size + 1, 2, none⟩ = some (.int .u64 (lo y.p : Nat)) ∧ W.cell? ⟨w.heap.size + 1, 3, none⟩ = some (.int .i64 y.n) ∧
    W.cell? ⟨w.heap.size + 1, 4, none⟩ = some (.int .i64 y.st) ∧ W.cell? ⟨w.heap.size + 1, 5, none⟩ = some (.string y.cl) ∧ W.cell? ⟨w.heap.size + 1, 6, none⟩ = some (.int .u32 (y.ia : Int)) ∧ W.cell? ⟨w.heap.size + 1, 7, none⟩ = some (.int .i64 y.un))
    (first
      | exact (H.step (grew_drew _)).all
      | exact H2.all
      | exact (H2.step (grew_alloc _ _)).all)
    (first
      | (go_at_call 29; refine (compareI_any _ _ _).mono ?_; rintro e w2 ⟨rfl, rfl⟩)
      | (go_at_call 38; refine (TC.out _).mono ?_; rintro e w2 ⟨rfl, hb2⟩; have H2 := (H.step (grew_drew _)).step hb2)
      | (go_at_call 28; refine (or2_any _ (cmpI x.un y.un) cl _ (by simp [go_sem]) (by simp [go_sem])).mono ?_; rintro e w5 ⟨rfl, rfl⟩))
  go_wp2
  go_ret
  exact ⟨congrArg Ending.returned (i64_eq R.out), (H2.step (grew_alloc _ _)).g⟩
/-- the order of what Due answers -/
abbrev DueL (R : List Ls) : Prop := R.Pairwise (fun x y => dueC x y < 0)
theorem dueL_unique {R M : List Ls} (h : R.Perm M) (h1 : DueL R) (h2 : DueL M) : R = M := srt_unique (fun {x y} h k => by have := dueC_neg x y; omega) h h1 h2
theorem due_strict {R F : List Ls} (hp : R.Perm F) (hs : R.Pairwise (fun x y => Go.Proofs.ltOf dueC y x = false)) (hF : SrtL F) : DueL R := by
  have hne : R.Pairwise (fun x y => cmpL x y ≠ 0) := by
    refine (hp.pairwise_iff (fun {x y} (h : cmpL x y ≠ 0) => by have := cmpL_neg x y; omega)).2 (hF.imp (fun h => by omega))
  refine (hs.and hne).imp (fun {x y} ⟨a, b⟩ => ?_)
  unfold ltOf at a
  rw [decide_eq_false_iff_not] at a
  have := dueC_neg x y
  by_cases e : dueC x y = 0
  · exact absurd (dueC_zero e) b
  · omega
def DuePost (w : World) (L : List Ls) (now : Int) (e : Ending) (w' : World) : Prop := ∃ R, R.Perm (L.filter (dueB now)) ∧ DueL R ∧ LsPost w R e w'
set_option maxRecDepth 100000 in
set_option maxHeartbeats 4000000 in
theorem tdue_any (h : IsTab w t O L) (now : Int) : Calls Try.prog 18 #[Pt t, .int .i64 now] w (DuePost w L now) := by
  obtain ⟨km, om, v, E, h, hs, hp⟩ := h
  have DP := (dueL_perm h.heap now).trans (hp.symm.filter _)
  have DL : (dueL E now 0).length ≤ 2000 := by
    have a := (dueL_perm h.heap now).length_eq
    have b := List.length_filter_le (dueB now) (E.map (·.2))
    have c := h.ends.len
    simp at b
    omega
  have AD := hide (appendDue_any h.ends now _ 0 (Nat.le_refl _) [] (.slice none 0 0) w (Below.refl _ _) (World.ownsRow_nil _ _ _ _) (by simpa using DL))
  rw [List.nil_append] at AD
  have SN := hide (fun p cap W => sort_none 37 p cap W)
  have HSF := hide (hs.sublist (List.filter_sublist (p := dueB now)))
  have HFP := hide DP
  have HFL := hide DL
  obtain ⟨c0, c1, c2⟩ := h.ends.tabs
  clear h hs hp DP DL
  generalize dueL E now 0 = F at *
  go_enter Try.func18, Try.ntmps18
  go_wp2_with fail
  refine AD.out.mono ?_
  rintro e w1 ⟨list, rfl, B1, O1⟩
  have HB := hide B1
  have HO := hide O1
  clear B1 O1 AD c0 c1 c2
  rcases ownsRow_forms HO.out with ⟨rfl, h0⟩ | ⟨g2, cap2, rfl⟩
  · obtain rfl : F = [] := List.eq_nil_of_length_eq_zero h0
    clear h0
    go_wp2_with fail
    refine (SN.out _ _ _).mono ?_
    rintro e w2 ⟨rfl, rfl⟩
    go_wp2
    go_ret
    exact ⟨[], HFP.out, .nil, _, rfl, ⟨none, 0, rfl, Or.inl rfl⟩, HB.out⟩
  · cases F with
    | nil =>
      go_wp2_with fail
      refine (SN.out _ _ _).mono ?_
      rintro e w2 ⟨rfl, rfl⟩
      go_wp2
      go_ret
      exact ⟨[], HFP.out, .nil, _, rfl, ⟨some ⟨g2, 0, none⟩, cap2, rfl, Or.inl rfl⟩, HB.out⟩
    | cons y F =>
      have hg := (HO.out.lt g2 rfl)
      have SA := hide (sort_any (cap := cap2) (enters_of Try.func37 (by kernel_rfl) rfl) dueG_any swo_due (holds_own HO.out) hg.2 HFL.out)
      have HG := hide hg
      clear hg
      generalize hF : y :: F = F2 at *
      clear hF
      go_wp2_with fail
      refine SA.out.mono ?_
      rintro e w2 ⟨rfl, R, hp, hs, hh, hf⟩
      have HP := hide hp
      have HS := hide (due_strict (hp.trans HFP.out) hs HSF.out)
      have HH := hide hh
      have HFR := hide hf
      clear hp hs hh hf
      go_wp2
      go_ret
      exact ⟨R, HP.out.trans HFP.out, HS.out, _, rfl, ⟨some ⟨g2, 0, none⟩, cap2, (by rw [HP.out.length_eq]; rfl), Or.inr ⟨g2, rfl, HG.out.1, Nat.lt_of_lt_of_le HG.out.2 HFR.out.size, HH.out⟩⟩, HB.out.trans (HFR.out.below HB.out.size (fun j e => by rw [e]; exact HG.out.1))⟩
end Go.Proofs.Ytpldkgollhbolaa
