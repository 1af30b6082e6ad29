/-
  The walk of the law PoolExact: it returns true. Conditions: the words are words of 64 bits.
-/
import Derived.Test.YtfmhpnendcikoaaGreatPoRx
namespace Go.Proofs.YtfmhpnendcikoaaGreat
open Go.RowKit Go.Joins

/-- an address's value by two numbers -/
theorem A_letters (a : Nat) : ∃ h l : Int, A a = .agg #[.int .u64 h, .int .u64 l] := ⟨_, _, rfl⟩
set_option maxRecDepth 100000 in
set_option maxHeartbeats 4000000 in
theorem exact_any {vp vt : Value} {p : List Rg} {t : List Nat} {d : Nat} (fp : FitL p) (ft : ∀ a ∈ t, Fits a) (fd : d < 18446744073709551616) (w : World) (hv : Lst vp p w) (hu : LstA vt t w) :
    Calls Tryz.prog 3 #[vp, vt, .int .u64 (d : Nat)] w (Gives (.bool true) w) := by
  have HV := hide (fun W (H : Below w.heap.size w W) => hv.step H)
  have HU := hide (fun W (H : Below w.heap.size w W) => hu.step H)
  obtain ⟨pp, pc, rfl⟩ := lst_len hv
  obtain ⟨q, c, rfl⟩ := lstA_len hu
  clear hv hu
  go_enter Tryz.func3, Tryz.ntmps3
  go_wp2_with fail
  refine (awake_any _).mono ?_
  rintro e w1 ⟨rfl, hb1⟩
  by_cases hp : 100 < p.length
  · have E : (100 : Int) < (p.length : Int) := by omega
    go_wp2
    go_ret
    exact ⟨rfl, hb1⟩
  by_cases ht : 100 < t.length
  · have E : (100 : Int) < (t.length : Int) := by omega
    go_wp2
    go_ret
    exact ⟨rfl, hb1⟩
  have BU := hide (fun W (H : Below w.heap.size w W) => build_any fp ft (by omega) (by omega) W (HV.out W H) (HU.out W H))
  have RB := hide (fun W (H : Below w.heap.size w W) => rbuild_any fp ft (by omega) (by omega) W (HV.out W H) (HU.out W H))
  have FR := hide (fun W (H : Below w.heap.size w W) => free_any fp ft (by omega) (by omega) W (HV.out W H) (HU.out W H))
  have RF := hide (fun W (H : Below w.heap.size w W) => rfree_any fp ft (by omega) (by omega) W (HV.out W H) (HU.out W H))
  obtain ⟨h, l, hA⟩ := A_letters (nthV p (pickN p d))
  have PI := hide (fun W (H : Below w.heap.size w W) => hA ▸ pick_any fp fd (by omega) W (HV.out W H))
  have RK := hide (fun W (H : Below w.heap.size w W) => hA ▸ rpick_any fp fd (by omega) W (HV.out W H))
  generalize nthO p (pickN p d) = o at *
  have LB : (buildR p t).1.length ≤ 1000000 := by
    unfold buildR
    split
    · rename_i ho
      obtain ⟨j1, j2, j3, _⟩ := jn_spec (okL_iff.1 ho) fp
      obtain ⟨_, _, s3, _⟩ := free_spec j1 j2 ft
      simp only
      omega
    · simp
  have LF : (freeR p t).1.length ≤ 1000000 := by
    unfold freeR
    split
    · rename_i hs
      obtain ⟨_, _, s3, _⟩ := free_spec (sound_snd.1 hs) fp ft
      simp only
      omega
    · simp
  obtain ⟨BL, be, hB⟩ : ∃ (L : List Rg) (e : Int), buildR p t = (L, e) := ⟨_, _, rfl⟩
  obtain ⟨FL, fe, hF⟩ : ∃ (L : List Rg) (e : Int), freeR p t = (L, e) := ⟨_, _, rfl⟩
  rw [hB] at BU RB LB
  rw [hF] at FR RF LF
  simp only at LB LF
  have SB := hide (fun W va vb (H : Lst va BL W) (K : Lst vb BL W) => via (same_any LB W H K) (v' := .bool true) (by simp))
  have SF := hide (fun W va vb (H : Lst va FL W) (K : Lst vb FL W) => via (same_any LF W H K) (v' := .bool true) (by simp))
  clear hA hB hF LB LF fp ft HV HU
  go_wp2_with fail
  refine (BU.out _ hb1).mono ?_
  rintro e w2 ⟨va, rfl, hb2, O2⟩
  have B2 := chain hb1 hb2
  have L2 := own_lst O2
  simp only at L2
  clear hb1 hb2 O2 BU
  go_wp2_with fail
  refine (RB.out _ B2).mono ?_
  rintro e w3 ⟨vb, rfl, hb3, K3⟩
  have B3 := chain B2 hb3
  have L3 := L2.step hb3
  simp only at K3
  clear B2 hb3 L2 RB
  go_wp2_with fail
  refine (SB.out _ _ _ L3 K3).mono ?_
  rintro e w4 ⟨rfl, hb4⟩
  have B4 := chain B3 hb4
  clear B3 hb4 L3 K3 SB
  go_wp2_with fail
  refine (FR.out _ B4).mono ?_
  rintro e w5 ⟨vc, rfl, hb5, O5⟩
  have B5 := chain B4 hb5
  have L5 := own_lst O5
  simp only at L5
  clear B4 hb5 O5 FR
  go_wp2_with fail
  refine (RF.out _ B5).mono ?_
  rintro e w6 ⟨vd, rfl, hb6, K6⟩
  have B6 := chain B5 hb6
  have L6 := L5.step hb6
  simp only at K6
  clear B5 hb6 L5 RF
  go_wp2_with fail
  refine (SF.out _ _ _ L6 K6).mono ?_
  rintro e w7 ⟨rfl, hb7⟩
  have B7 := chain B6 hb7
  clear B6 hb7 L6 K6 SF
  go_wp2_with fail
  refine (PI.out _ B7).mono ?_
  rintro e w8 ⟨rfl, hb8⟩
  have B8 := chain (chain B7 hb8) (below_alloc w8 (.cells #[.int .u64 h, .int .u64 l] 31))
  have C8 : (w8.alloc (.cells #[.int .u64 h, .int .u64 l] 31)).cell? ⟨w8.heap.size, 0, none⟩ = some (.int .u64 h) ∧ (w8.alloc (.cells #[.int .u64 h, .int .u64 l] 31)).cell? ⟨w8.heap.size, 1, none⟩ = some (.int .u64 l) := ⟨by simp [go_sem], by simp [go_sem]⟩
  clear B7 hb8 PI
  go_wp2_with fail
  refine (RK.out _ B8).mono ?_
  rintro e w9 ⟨rfl, hb9⟩
  have c0 := keep_cell hb9 C8.1
  have c1 := keep_cell hb9 C8.2
  have B9 := chain B8 hb9
  clear B8 hb9 C8 RK
  have e0 := keep_cell (below_alloc w9 (.cells #[.int .u64 h, .int .u64 l] 31)) c0
  have e1 := keep_cell (below_alloc w9 (.cells #[.int .u64 h, .int .u64 l] 31)) c1
  go_wp2
  go_ret
  exact ⟨rfl, by first | exact chain B9 (below_alloc _ _) | skip⟩
end Go.Proofs.YtfmhpnendcikoaaGreat
