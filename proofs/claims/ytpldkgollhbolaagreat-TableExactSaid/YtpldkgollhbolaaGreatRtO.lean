/-
  The document's own Of of layer 9. Conditions: at most 2000 leases, of their types.
-/
import Derived.Test.YtpldkgollhbolaaGreatRtF
namespace Go.Proofs.YtpldkgollhbolaaGreat
open Go.RowKit Go.Joins Go.Maps

variable {w w' V W W' : World} {L : List Ls} {v : Value}
theorem of_cases {y : Ls} {k : Int} {c : ByteArray} {i : Nat} (h : decide (y.st = 1 ∧ y.kind = k ∧ y.cl = c ∧ y.ia = i) = false) : (y.st == 1) = false ∨ ((y.st == 1) = true ∧ (y.kind == k) = false) ∨ ((y.st == 1) = true ∧ (y.kind == k) = true ∧ (y.cl.toList == c.toList) = false) ∨
    ((y.st == 1) = true ∧ (y.kind == k) = true ∧ (y.cl.toList == c.toList) = true ∧ ((y.ia : Int) == (i : Int)) = false) := by
  rw [bytes_ne]
  have h := of_decide_eq_false h
  simp only [beq_iff_eq, beq_eq_false_iff_ne, decide_eq_false_iff_not, decide_eq_true_iff]
  by_cases h1 : y.st = 1
  · by_cases h2 : y.kind = k
    · by_cases h3 : y.cl = c
      · exact Or.inr (Or.inr (Or.inr ⟨h1, h2, h3, fun e => h ⟨h1, h2, h3, by omega⟩⟩))
      · exact Or.inr (Or.inr (Or.inl ⟨h1, h2, h3⟩))
    · exact Or.inr (Or.inl ⟨h1, h2⟩)
  · exact Or.inl h1
set_option maxRecDepth 100000 in
set_option maxHeartbeats 4000000 in
theorem rof_any {u c : Nat} {p : Option Go.Addr} (h : RTab w u p c L) (hn : L.length ≤ 2000) (kd : Int) (cl : ByteArray) (ia : Nat) : Calls Tryz.prog 27 #[Pt u, .int .i64 kd, .string cl, .int .u32 (ia : Int)] w (Gives (tellV (ofL L kd cl ia)) w) := by
  have HT := hide h
  have HB0 := hide (below_alloc w (.cells #[.int .i64 0, .int .u64 0, .int .u64 0, .int .i64 0, .int .i64 0, .string ⟨#[]⟩, .int .u32 0, .int .i64 0] 30))
  have Z0 : Hid (ZB w.heap.size (w.alloc (.cells #[.int .i64 0, .int .u64 0, .int .u64 0, .int .i64 0, .int .i64 0, .string ⟨#[]⟩, .int .u32 0, .int .i64 0] 30))) := hide (heap_alloc_new w _)
  have FL := hide (show ofL L kd cl ia = L.find? (fun y => decide (y.st = 1 ∧ y.kind = kd ∧ y.cl = cl ∧ y.ia = ia)) from rfl)
  clear h
  go_enter Tryz.func27, Tryz.ntmps27
  go_upto_region 1 with fail
  generalize w.alloc (.cells #[.int .i64 0, .int .u64 0, .int .u64 0, .int .i64 0, .int .i64 0, .string ⟨#[]⟩, .int .u32 0, .int .i64 0] 30) = V at *
  go_wp2_with fail
  go_loopw [10] (fun ii wr => ∃ k : Nat, k ≤ L.length ∧ ii = .int .i64 (k : Nat) ∧ Hid ((L.take k).any (fun y => decide (y.st = 1 ∧ y.kind = kd ∧ y.cl = cl ∧ y.ia = ia)) = false) ∧ Hid (Below V.heap.size V wr)) (fun ii _ => L.length - (intOf ii).toNat)
  case atStart => exact ⟨0, Nat.zero_le _, rfl, hide rfl, hide (Below.refl _ _)⟩
  case round =>
    obtain ⟨k, hk, rfl, HA, HB⟩ := hrel
    have hk0 : (0 : Int) ≤ (k : Int) := by omega
    have HTk := (HT.out.step HB0.out).step HB.out
    have c0 := HTk.cell
    have ZK := hide (Z0.out.step HB.out)
    have SV := hide HB0.out.size
    have ult : u < wr.heap.size := HTk.lt
    have hzw : w.heap.size ≤ w.heap.size := Nat.le_refl _
    by_cases hlt : k < L.length
    · have hlt2 : (k : Int) < (L.length : Int) := by omega
      obtain ⟨y, hy⟩ : ∃ y, L[k]? = some y := ⟨_, List.getElem?_eq_getElem hlt⟩
      have AS := hide (any_snoc hy HA.out)
      have FH := hide (fun (h : decide (y.st = 1 ∧ y.kind = kd ∧ y.cl = cl ∧ y.ia = ia) = true) => find_here (P := fun y => decide (y.st = 1 ∧ y.kind = kd ∧ y.cl = cl ∧ y.ia = ia)) hy HA.out h)
      obtain ⟨b, o, rfl, y0, y1, y2, y3, y4, y5, y6, y7⟩ := HTk.lst k y hy
      have ZY := hide (ZK.out.step (below_alloc wr (.cells (leaseC y) 30)))
      have YB := hide (atL_new wr y 30)
      have TY := hide (HTk.step (below_alloc wr (.cells (leaseC y) 30)))
      have BY := hide (HB.out.trans ((below_alloc wr (.cells (leaseC y) 30)).mono HB.out.size))
      have BE := hide (chain HB0.out BY.out)
      clear HTk hy HA HB ZK
      go_upto_region 5 with fail
      generalize wr.alloc (.cells (leaseC y) 30) = W2 at *
      generalize wr.heap.size = yb at *
      clear y0 y1 y2 y3 y4 y5 y6 y7 c0 ult
      obtain ⟨y0, y1, y2, y3, y4, y5, y6, y7⟩ := YB.out
      obtain ⟨z0, z1, z2, z3, z4, z5, z6, z7⟩ := ZY.out.cells
      have f0 := frozen_at ZY.out 0
      have f1 := frozen_at ZY.out 1
      have f2 := frozen_at ZY.out 2
      have f3 := frozen_at ZY.out 3
      have f4 := frozen_at ZY.out 4
      have f5 := frozen_at ZY.out 5
      have f6 := frozen_at ZY.out 6
      have f7 := frozen_at ZY.out 7
      have c0 := TY.out.cell
      simp only [Nat.zero_add] at y1 y2 y3 y4 y5 y6 y7
      cases hP : decide (y.st = 1 ∧ y.kind = kd ∧ y.cl = cl ∧ y.ia = ia) with
      | true =>
        have FE := hide (show ofL L kd cl ia = some y by rw [FL.out]; exact FH.out hP)
        obtain ⟨h1, h2, h3, h4⟩ := of_decide_eq_true hP
        have e1 : (y.st == 1) = true := by rw [beq_iff_eq]; exact h1
        have e2 : (y.kind == kd) = true := by rw [beq_iff_eq]; exact h2
        have e3 : (y.cl.toList == cl.toList) = true := by rw [bytes_ne]; exact decide_eq_true h3
        have e4 : ((y.ia : Int) == (ia : Int)) = true := by rw [beq_iff_eq, h4]
        clear hP h1 h2 h3 h4 AS FH
        go_wp2
        refine bodyPost_ret (v := .tuple #[Lv y, .bool true]) (by simp [results, Tryz.results27, go_sem, z0, z1, z2, z3, z4, z5, z6, z7]) rfl ⟨by rw [FE.out]; rfl, ?_⟩
        exact (((((((BE.out.setCell hzw _).setCell hzw _).setCell hzw _).setCell hzw _).setCell hzw _).setCell hzw _).setCell hzw _).setCell hzw _
      | false =>
        have AF := hide (show ((L.take (k + 1)).any (fun y => decide (y.st = 1 ∧ y.kind = kd ∧ y.cl = cl ∧ y.ia = ia))) = false by rw [AS.out]; exact hP)
        have OC := of_cases hP
        clear hP AS FH z0 z1 z2 z3 z4 z5 z6 z7 f0 f1 f2 f3 f4 f5 f6 f7
        rcases OC with h1 | ⟨h1, h2⟩ | ⟨h1, h2, h3⟩ | ⟨h1, h2, h3, h4⟩
        all_goals
          go_wp2
          go_roundw
          case rel => exact ⟨k + 1, hlt, by go_num, AF, BY⟩
          case measure => simp [intOf]; omega
    · have hlt2 : ¬ (k : Int) < (L.length : Int) := by omega
      have FE := hide (show ofL L kd cl ia = none by rw [FL.out]; exact find_nowhere (by have := HA.out; rwa [show k = L.length by omega] at this))
      have BE := hide (chain HB0.out HB.out)
      obtain ⟨z0, z1, z2, z3, z4, z5, z6, z7⟩ := ZK.out.cells
      have f0 := frozen_at ZK.out 0
      have f1 := frozen_at ZK.out 1
      have f2 := frozen_at ZK.out 2
      have f3 := frozen_at ZK.out 3
      have f4 := frozen_at ZK.out 4
      have f5 := frozen_at ZK.out 5
      have f6 := frozen_at ZK.out 6
      have f7 := frozen_at ZK.out 7
      clear HTk HA HB ZK
      go_wp2
      refine bodyPost_ret (v := .tuple #[zLv, .bool false]) (by simp [results, Tryz.results27, go_sem, z0, z1, z2, z3, z4, z5, z6, z7]) rfl ⟨by rw [FE.out]; rfl, ?_⟩
      exact (((((((BE.out.setCell hzw _).setCell hzw _).setCell hzw _).setCell hzw _).setCell hzw _).setCell hzw _).setCell hzw _).setCell hzw _
end Go.Proofs.YtpldkgollhbolaaGreat
