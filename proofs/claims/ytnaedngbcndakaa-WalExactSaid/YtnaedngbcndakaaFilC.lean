/-
  The contracts of isSign and isName. Conditions: a string is no longer than an int (every string is such).
-/
import Derived.Test.YtnaedngbcndakaaFilB
namespace Go.Proofs.Ytnaedngbcndakaa
open Go.RowKit Go.Maps

theorem sign_eq (c : UInt8) : signB c = (decide (97 ≤ c.toNat) && decide (c.toNat ≤ 122) || decide (48 ≤ c.toNat) && decide (c.toNat ≤ 57) || decide (c.toNat = 46) || decide (c.toNat = 45)) := by
  have e : ∀ k : UInt8, (c == k) = decide (c.toNat = k.toNat) := fun k => by
    rw [Bool.eq_iff_iff]; simp [UInt8.toNat_inj]
  unfold signB
  rw [e, e]
  simp only [UInt8.le_iff_toNat_le]
  rfl
set_option maxRecDepth 100000 in
set_option maxHeartbeats 1000000 in
theorem sign_any (c : UInt8) (w : World) : Calls Try.prog 75 #[byteV c] w (Same (.bool (signB c)) w) := by
  have h0 := c.toNat_lt
  unfold byteV
  rw [sign_eq]
  generalize c.toNat = n at *
  go_enter Try.func75, Try.ntmps75
  go_wp2
  all_goals (go_ret; refine ⟨congrArg Ending.returned (bool_eq ?_), rfl⟩)
  all_goals first | (simp; omega) | (rw [Bool.eq_iff_iff]; simp; omega) | go_ways
theorem all_take (l : Nm) (k : Nat) (h : k < l.length) : (l.take (k + 1)).all signB = ((l.take k).all signB && signB l[k]) := by
  rw [List.take_succ_eq_append_getElem h, List.all_append]; simp
set_option maxRecDepth 100000 in
set_option maxHeartbeats 1000000 in
theorem name_any (s : ByteArray) (hs : s.size ≤ maxLen) (w : World) : Calls Try.prog 68 #[.string s] w (Same (.bool (nameB s.data.toList)) w) := by
  unfold maxLen at hs
  have hL : s.data.toList.length = s.size := rfl
  by_cases h0 : s.data.toList = []
  · have e1 : s.toList = [] := by rw [ByteArray.toList_eq, h0]
    have V := hide (show nameB s.data.toList = false by unfold nameB; rw [h0]; rfl)
    clear h0 hL
    go_enter Try.func68, Try.ntmps68
    go_wp2
    go_ret
    exact ⟨congrArg Ending.returned (bool_eq V.out.symm), rfl⟩
  have e1 : ¬ s.toList = [] := by rw [ByteArray.toList_eq]; exact h0
  have e2 : s.toList.isEmpty = false := by rw [ByteArray.toList_eq]; simpa using h0
  by_cases h1 : 32 < s.size
  · have V := hide (show nameB s.data.toList = false by
      unfold nameB
      rw [hL, decide_eq_false (show ¬ s.size ≤ 32 by omega)]
      simp)
    have h2 : 32 < (s.size : Int) := by omega
    clear h0 hL
    go_enter Try.func68, Try.ntmps68
    go_wp2
    go_ret
    exact ⟨congrArg Ending.returned (bool_eq V.out.symm), rfl⟩
  have V := hide (show nameB s.data.toList = s.data.toList.all signB by
    unfold nameB
    rw [hL, decide_eq_true (show s.size ≤ 32 by omega), decide_eq_true h0]
    simp)
  have h2 : (s.size : Int) ≤ 32 := by omega
  have h3 : ¬ 32 < (s.size : Int) := by omega
  have HL := hide hL
  clear h0 h1 hL
  go_enter Try.func68, Try.ntmps68
  go_wp2
  go_loop [13] (fun i => ∃ k : Nat, k ≤ s.size ∧ i = .int .i64 (k : Int) ∧ Hid ((s.data.toList.take k).all signB = true)) (fun i => s.size - (intOf i).toNat)
  case atStart => exact ⟨0, Nat.zero_le _, rfl, hide rfl⟩
  case round =>
    obtain ⟨k, hk, rfl, HA⟩ := hrel
    by_cases hlt : k < s.size
    · have hlt2 : (k : Int) < (s.size : Int) := by omega
      obtain ⟨c, hc⟩ : ∃ c, c = s[k] := ⟨_, rfl⟩
      have AT := hide (all_take s.data.toList k (by rw [HL.out]; exact hlt))
      have hC := hide hc
      have SG := hide (sign_any s[k])
      unfold byteV at SG
      cases hsg : signB s[k]
      · rw [hsg] at SG
        have HS := hide hsg
        clear hsg hc
        go_wp2_with (go_at_call 75; refine (SG.out _).mono ?_; rintro e w2 ⟨rfl, rfl⟩)
        go_ret
        refine ⟨congrArg Ending.returned (bool_eq ?_), rfl⟩
        rw [V.out]
        symm
        rw [List.all_eq_false]
        exact ⟨s[k], by have := List.getElem_mem (l := s.data.toList) (n := k) (by rw [HL.out]; exact hlt); exact this, by rw [HS.out]; simp⟩
      · rw [hsg] at SG
        have HS := hide hsg
        clear hsg hc
        go_wp2_with (go_at_call 75; refine (SG.out _).mono ?_; rintro e w2 ⟨rfl, rfl⟩)
        go_round
        case rel => exact ⟨k + 1, by omega, by go_num, hide (by rw [AT.out, HA.out]; exact HS.out)⟩
        case measure => simp [intOf]; omega
    · have hlt2 : ¬ (k : Int) < (s.size : Int) := by omega
      go_wp2
      go_ret
      refine ⟨congrArg Ending.returned (bool_eq ?_), rfl⟩
      rw [V.out, ← HA.out, List.take_of_length_le (by rw [HL.out]; omega)]
def checkI (s : Dk) (xs : List Nm) : Int := if s.down then 60 else if xs.all nameB then 0 else 61
theorem allN_take (l : List Nm) (k : Nat) (h : k < l.length) : (l.take (k + 1)).all nameB = ((l.take k).all nameB && nameB l[k]) := by
  rw [List.take_succ_eq_append_getElem h, List.all_append]; simp
theorem Dsk.cells {w : World} {d m : Nat} {O : Nat → Prop} {D : DataW Unit} {fb : Nm → Nat} {sv : Nm → Value} {s : Dk} (h : Dsk w d m O D fb sv s) :
    ∃ l : Int, (l = s.left ∨ (l < 0 ∧ s.left = -1)) ∧ I64 l ∧ w.cell? ⟨d, 0, none⟩ = some (.map (some m)) ∧ w.cell? ⟨d, 1, none⟩ = some (.bool s.down) ∧ w.cell? ⟨d, 2, none⟩ = some (.int .i64 l) ∧ w.cell? ⟨d, 3, none⟩ = some (.int .i64 s.keep) ∧
      w.cell? ⟨d, 4, none⟩ = some (.int .i64 (s.steps : Nat)) ∧ ∀ i, w.frozen? ⟨d, i, none⟩ = false := by
  obtain ⟨l, h1, h2, h3⟩ := h.disk
  exact ⟨l, h2, h3, cell_at h1 0, cell_at h1 1, cell_at h1 2, cell_at h1 3, cell_at h1 4, free_at h1⟩
theorem check_nil (v : Value) (w : World) : Calls Try.prog 53 #[.pointer none, v] w (Same (.int .i64 2) w) := by
  go_enter Try.func53, Try.ntmps53
  go_wp2
  go_ret
  exact ⟨rfl, rfl⟩
set_option maxRecDepth 100000 in
set_option maxHeartbeats 1000000 in
theorem check_any {w : World} {d : Nat} {O : Nat → Prop} {s : Dk} (h : IsDsk w d O s) {g cap : Nat} {xs : List Nm} (hn : xs.length ≤ 2) (hx : ∀ j x, xs[j]? = some x → w.cell? ⟨g, j, none⟩ = some (St x) ∧ x.length ≤ maxLen) :
    Calls Try.prog 53 #[Pt d, .slice (some ⟨g, 0, none⟩) xs.length cap] w (Same (.int .i64 (checkI s xs)) w) := by
  obtain ⟨m, D, fb, sv, h⟩ := h
  obtain ⟨l, _, _, _, c1, _, _, _, _⟩ := h.cells
  have hX := hide hx
  clear hx h
  cases hdn : s.down with
  | true =>
    rw [hdn] at c1
    have V := hide (show checkI s xs = 60 by unfold checkI; rw [hdn]; rfl)
    clear hdn
    go_enter Try.func53, Try.ntmps53
    go_wp2
    go_ret
    exact ⟨congrArg Ending.returned (int_eq V.out.symm), rfl⟩
  | false =>
    rw [hdn] at c1
    have V := hide (show checkI s xs = if xs.all nameB then 0 else 61 by unfold checkI; rw [hdn]; rfl)
    clear hdn
    go_enter Try.func53, Try.ntmps53
    go_wp2
    go_loop [15] (fun i => ∃ k : Nat, k ≤ xs.length ∧ i = .int .i64 (k : Int) ∧ Hid ((xs.take k).all nameB = true)) (fun i => xs.length - (intOf i).toNat)
    case atStart => exact ⟨0, Nat.zero_le _, rfl, hide rfl⟩
    case round =>
      obtain ⟨k, hk, rfl, HA⟩ := hrel
      by_cases hlt : k < xs.length
      · have hlt2 : (k : Int) < (xs.length : Int) := by omega
        obtain ⟨x, hxe⟩ : ∃ x, x = xs[k] := ⟨_, rfl⟩
        have AT := hide (allN_take xs k hlt)
        rw [← hxe] at AT
        obtain ⟨ck, hxl⟩ := hX.out k x (by rw [hxe]; exact List.getElem?_eq_getElem hlt)
        have MM := hide (show x ∈ xs by rw [hxe]; exact List.getElem_mem hlt)
        have NM := hide (name_any ⟨x.toArray⟩ (by rw [st_size]; exact hxl))
        have e0 : (⟨x.toArray⟩ : ByteArray).data.toList = x := by simp
        rw [e0] at NM
        clear e0 hxe
        cases hsg : nameB x
        · rw [hsg] at NM
          have HS := hide hsg
          clear hsg
          go_wp2_with (go_at_call 68; refine (NM.out _).mono ?_; rintro e w2 ⟨rfl, rfl⟩)
          go_ret
          refine ⟨congrArg Ending.returned (int_eq ?_), rfl⟩
          rw [V.out, if_neg (fun e => by have := List.all_eq_true.1 e x MM.out; rw [HS.out] at this; cases this)]
        · rw [hsg] at NM
          have HS := hide hsg
          clear hsg
          go_wp2_with (go_at_call 68; refine (NM.out _).mono ?_; rintro e w2 ⟨rfl, rfl⟩)
          go_round
          case rel => exact ⟨k + 1, by omega, by go_num, hide (by rw [AT.out, HA.out]; exact HS.out)⟩
          case measure => simp [intOf]; omega
      · have hlt2 : ¬ (k : Int) < (xs.length : Int) := by omega
        go_wp2
        go_ret
        refine ⟨congrArg Ending.returned (int_eq ?_), rfl⟩
        have := HA.out
        rw [List.take_of_length_le (by omega)] at this
        rw [V.out, if_pos this]
end Go.Proofs.Ytnaedngbcndakaa
