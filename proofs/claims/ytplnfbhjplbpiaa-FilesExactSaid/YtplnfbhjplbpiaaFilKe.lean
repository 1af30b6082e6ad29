/-
  FilesKeep: what its calls answer, and its walk. Condition: a string is no longer than an int, an int is one of 64 bits (every value of the types is such).
-/
import Derived.Test.YtplnfbhjplbpiaaFilNm
import Derived.Test.YtplnfbhjplbpiaaFilRw
namespace Go.Proofs.Ytplnfbhjplbpiaa
open Go.RowKit Go.Maps

theorem logB : nameB nLog = true := by kernel_rfl
/-- the disk ahead of piece k -/
def keepS (k : Nat) (all : Nm) (safe st : Nat) : Dk := if k = 0 then newD else dk1 nLog all safe st false
theorem keep_app {k : Nat} {all data : Nm} {safe st : Nat} (h0 : k = 0 → all = [] ∧ safe = 0 ∧ st = 0) (hl : all.length + data.length ≤ 1048576) : appendD (keepS k all safe st) nLog data = (0, dk1 nLog (all ++ data) safe (st + 1) false) := by
  unfold keepS
  by_cases e : k = 0
  · obtain ⟨rfl, rfl, rfl⟩ := h0 e
    rw [if_pos e, nE1 logB (by simpa using hl)]
    rfl
  · rw [if_neg e]
    exact nE3 logB _ _ hl
theorem keep_steps {k : Nat} {all : Nm} {safe st : Nat} (h : st ≤ 600) : (keepS k all safe st).steps < 4611686018427387904 := by
  unfold keepS
  split
  · show 0 < _; omega
  · show st < _; omega
theorem keep_read (k : Nat) {all : Nm} {safe st : Nat} (h : k = 0) : readD (keepS k all safe st) nLog = ([], 62) := by
  unfold keepS
  rw [if_pos h]
  kernel_rfl
theorem keep_off (all : Nm) (safe st : Nat) (keep : Int) : offC (dk1 nLog all safe st false) keep = dk1 nLog (all.take (safe + keepN keep (all.length - safe))) (safe + keepN keep (all.length - safe)) st true := rfl
theorem keep_down (all : Nm) (safe st : Nat) (data : Nm) : appendD (dk1 nLog all safe st true) nLog data = (60, dk1 nLog all safe st true) := rfl
theorem keep_down2 (all : Nm) (safe st : Nat) : syncD (dk1 nLog all safe st true) nLog = (60, dk1 nLog all safe st true) := rfl
theorem bytes_take (x : List UInt8) (n : Nat) : ({ data := x.toArray } : ByteArray).extract 0 n = { data := (x.take n).toArray } := by
  apply ByteArray.ext
  simp
theorem lst_cells {l : List Pc} {W : World} {b o : Nat} (h : ∀ (j : Nat) (x : Pc), l[j]? = some x → ∀ (i : Nat) (u : Value), (wdP x)[i]? = some u → W.cell? ⟨b, o + j * 2 + i, none⟩ = some u) {k : Nat} (hk : k < l.length) :
    W.cell? ⟨b, o + k * 2, none⟩ = some (St l[k].data) ∧ W.cell? ⟨b, o + k * 2 + 1, none⟩ = some (.bool l[k].sync) :=
  ⟨h k l[k] (List.getElem?_eq_getElem hk) 0 _ rfl, h k l[k] (List.getElem?_eq_getElem hk) 1 _ rfl⟩
set_option maxRecDepth 100000 in
set_option maxHeartbeats 1000000 in
theorem fkeep_none (HN : NamesOk) (p : Option Go.Addr) (c : Nat) (keep : Int) (w : World) : Calls Try.prog 4 #[.slice p 0 c, .int .i64 keep] w (Tells w (.bool true)) := by
  go_enter Try.func4, Try.ntmps4
  go_wp2_with fail
  refine (awake_any HN w).mono ?_
  rintro e w1 ⟨rfl, F1⟩
  go_wp2_with fail
  refine (ses_new F1).mono ?_
  rintro e w2 ⟨d, rfl, H2⟩
  go_wp2
  go_loopw [6, 7, 8] (fun al sa i wr => al = .string ⟨#[]⟩ ∧ sa = .int .i64 0 ∧ i = .int .i64 0 ∧ Ses w wr d newD) (fun _ _ _ _ => 0)
  case atStart => exact ⟨rfl, rfl, rfl, H2⟩
  case round =>
    obtain ⟨rfl, rfl, rfl, H3⟩ := hrel
    clear H2
    go_wp2_with fail
    refine (ses_read H3 len3 (keep_read 0 (all := []) (safe := 0) (st := 0) rfl)).mono ?_
    rintro e w4 ⟨rfl, H4⟩
    go_wp2
    go_ret
    exact ⟨rfl, H4.fr⟩
set_option maxRecDepth 100000 in
set_option maxHeartbeats 2000000 in
theorem fkeep_some (HN : NamesOk) {b o c : Nat} {l : List Pc} {keep : Int} (hk : I64 keep) (hok : ∀ x ∈ l, okP x) (w : World) (hl : l.length ≤ maxLen) (hl0 : 0 < l.length) (hb : b < w.heap.size)
    (h : ∀ (j : Nat) (x : Pc), l[j]? = some x → ∀ (i : Nat) (u : Value), (wdP x)[i]? = some u → w.cell? ⟨b, o + j * 2 + i, none⟩ = some u) :
    Calls Try.prog 4 #[.slice (some ⟨b, o, none⟩) l.length c, .int .i64 keep] w (Tells w (.bool true)) := by
  unfold maxLen at hl
  have HC : Hid (∀ W, Fr No w W → ∀ k (hk : k < l.length), W.cell? ⟨b, o + k * 2, none⟩ = some (St l[k].data) ∧ W.cell? ⟨b, o + k * 2 + 1, none⟩ = some (.bool l[k].sync)) := hide (fun W F k hk => lst_cells (fun j x hj i u hi => by
    rw [World.cell?_of_block (a := ⟨b, o + j * 2 + i, none⟩) (F.block b hb (fun e => e))]
    exact h j x hj i u hi) hk)
  have HOK := hide hok
  have HL0 := hide hl0
  clear h hb hok hl0
  go_enter Try.func4, Try.ntmps4
  go_wp2_with fail
  refine (awake_any HN w).mono ?_
  rintro e w1 ⟨rfl, F1⟩
  go_wp2_with fail
  refine (ses_new F1).mono ?_
  rintro e w2 ⟨d, rfl, H2⟩
  go_wp2
  go_loopw [6, 7, 8] (fun al sa i wr => ∃ (k safe st : Nat) (all : Nm), al = .string ⟨all.toArray⟩ ∧ sa = .int .i64 (safe : Int) ∧ i = .int .i64 (k : Int) ∧ k ≤ l.length ∧ k ≤ 300 ∧ safe ≤ all.length ∧ all.length ≤ 1048576 ∧ st ≤ 2 * k ∧ Hid (k = 0 → all = [] ∧ safe = 0 ∧ st = 0) ∧ Ses w wr d (keepS k all safe st)) (fun _ _ i _ => l.length - (intOf i).toNat)
  case atStart => exact ⟨0, 0, 0, [], rfl, rfl, rfl, Nat.zero_le _, by omega, by simp, by simp, by omega, hide (fun _ => ⟨rfl, rfl, rfl⟩), H2⟩
  case round =>
    obtain ⟨k, safe, st, all, rfl, rfl, rfl, hk1, hk2, hs, ha, hst, HZ, H3⟩ := hrel
    clear H2
    by_cases hlt : k < l.length ∧ k < 300
    · obtain ⟨hlt1, hlt2⟩ := hlt
      have hlt3 : (k : Int) < (l.length : Int) := by omega
      have hlt4 : (k : Int) < 300 := by omega
      obtain ⟨c0, _⟩ := HC.out wr H3.fr k hlt1
      have hdx : l[k].data.length ≤ maxLen := HOK.out _ (List.getElem_mem hlt1)
      have CC := hide (fun W F => HC.out W F k hlt1)
      generalize l[k] = x at *
      obtain ⟨data, sy⟩ := x
      simp only at c0 hdx CC
      have HDX := hide hdx
      unfold maxLen at hdx
      by_cases hbig : 1048576 < all.length + data.length
      · have hb1 : 1048576 - (all.length : Int) < (data.length : Int) := by omega
        go_wp2
        go_ret
        exact ⟨rfl, H3.fr⟩
      · have hb1 : ¬ 1048576 - (all.length : Int) < (data.length : Int) := by omega
        have AP := hide (keep_app HZ.out (show all.length + data.length ≤ 1048576 by omega))
        obtain ⟨u, hu⟩ : ∃ u, u = all ++ data := ⟨_, rfl⟩
        have J1 : (({ data := all.toArray } : ByteArray) ++ { data := data.toArray }) = { data := u.toArray } := by rw [hu]; exact bytes_app _ _
        rw [← hu] at AP
        have hul : u.length = all.length + data.length := by rw [hu, List.length_append]
        have HUL := hide hul
        have hu3 : u.length ≤ 1048576 := by omega
        clear hu hul hbig
        cases sy with
        | true =>
          go_wp2_with fail
          refine (ses_append H3 (keep_steps (by omega)) len3 HDX.out AP.out).mono ?_
          rintro e w4 ⟨rfl, H4⟩
          obtain ⟨c2, c3⟩ := CC.out w4 H4.fr
          go_wp2_with fail
          refine (ses_sync H4 (by show st + 1 < _; omega) len3 (nE2 logB _ _)).mono ?_
          rintro e w5 ⟨rfl, H5⟩
          clear H4 c2 c3
          go_wp2_with fail
          refine (ses_read H5 len3 (nE7 logB _ _ _)).mono ?_
          rintro e w6 ⟨rfl, H6⟩
          clear H5
          go_wp2_with fail
          refine (ses_safe H6 len3 (nE6 _ _ _ _ _)).mono ?_
          rintro e w7 ⟨rfl, H7⟩
          clear H6
          go_wp2
          go_roundw
          case rel => exact ⟨k + 1, u.length, st + 1 + 1, u, rfl, rfl, by go_num, by omega, by omega, Nat.le_refl _, hu3, by omega, hide (fun e => by omega), by unfold keepS; rw [if_neg (by omega)]; exact H7⟩
          case measure => simp [intOf]; omega
        | false =>
          go_wp2_with fail
          refine (ses_append H3 (keep_steps (by omega)) len3 HDX.out AP.out).mono ?_
          rintro e w4 ⟨rfl, H4⟩
          obtain ⟨c2, c3⟩ := CC.out w4 H4.fr
          go_wp2_with fail
          refine (ses_read H4 len3 (nE7 logB _ _ _)).mono ?_
          rintro e w6 ⟨rfl, H6⟩
          clear H4 c2 c3
          go_wp2_with fail
          refine (ses_safe H6 len3 (nE6 _ _ _ _ _)).mono ?_
          rintro e w7 ⟨rfl, H7⟩
          clear H6
          go_wp2
          go_roundw
          case rel => exact ⟨k + 1, safe, st + 1, u, rfl, rfl, by go_num, by omega, by omega, by have := HUL.out; omega, hu3, by omega, hide (fun e => by omega), by unfold keepS; rw [if_neg (by omega)]; exact H7⟩
          case measure => simp [intOf]; omega
    · have hk0 : k ≠ 0 := fun e => by have := HL0.out; subst e; omega
      have H4 : Ses w wr d (dk1 nLog all safe st false) := by
        unfold keepS at H3
        rwa [if_neg hk0] at H3
      clear H3
      have hz : ¬ (l.length : Int) = 0 := by have := HL0.out; omega
      obtain ⟨kn, hkn⟩ : ∃ kn, kn = keepN keep (all.length - safe) := ⟨_, rfl⟩
      have hknl := keepN_le keep (all.length - safe)
      rw [← hkn] at hknl
      have OF := hide (keep_off all safe st keep)
      rw [← hkn] at OF
      have HKN := hide hkn
      clear hkn hk0
      have hul : (all.length : Int) - (safe : Int) + 1 = ((all.length - safe + 1 : Nat) : Int) := by omega
      have hu4 : 0 < (all.length : Int) - (safe : Int) + 1 := by omega
      have X1 := bytes_take all (safe + kn)
      have SZ := hide (show (safe + kn : Nat) ≤ all.length by omega)
      obtain ⟨t, ht⟩ : ∃ t, t = all.take (safe + kn) := ⟨_, rfl⟩
      have htl : t.length = safe + kn := by rw [ht, List.length_take]; have := SZ.out; omega
      rw [← ht] at X1 OF
      have T2 := hide (show t.take (safe + kn) = t by rw [List.take_of_length_le (by omega)])
      have HT := hide htl
      clear ht
      have hexit : (¬ (k : Int) < 300 ∧ (k : Int) < (l.length : Int)) ∨ ¬ (k : Int) < (l.length : Int) := by omega
      by_cases hpos : 0 < keep
      · have K1 : keep % ((all.length : Int) - (safe : Int) + 1) = (kn : Int) := by
          have := HKN.out
          unfold keepN at this
          rw [if_pos hpos] at this
          obtain ⟨m, rfl⟩ := Int.eq_ofNat_of_zero_le (show 0 ≤ keep by omega)
          rw [hul, this]
          simp
        obtain ⟨n, hn⟩ : ∃ n, n = safe + kn := ⟨_, rfl⟩
        rw [← hn] at X1 OF T2 htl HT
        have hn2 : (safe : Int) + (kn : Int) = (n : Int) := by omega
        have hn3 : n ≤ all.length := by omega
        have htl2 : (t.length : Int) = (n : Int) := by omega
        clear htl hn hul
        rcases hexit with ⟨q1, q2⟩ | q1
        all_goals
          go_wp2_with fail
          refine (ses_off H4 hk OF.out).mono ?_
          rintro e w5 ⟨rfl, H5⟩
          clear H4
          go_wp2_with fail
          refine (ses_down H5 rfl).mono ?_
          rintro e w6 ⟨rfl, H6⟩
          clear H5
          go_wp2_with fail
          refine (ses_append H6 (by show st < _; omega) len3 (by decide) (keep_down _ _ _ _)).mono ?_
          rintro e w7 ⟨rfl, H7⟩
          clear H6
          go_wp2_with fail
          refine (ses_sync H7 (by show st < _; omega) len3 (keep_down2 _ _ _)).mono ?_
          rintro e w8 ⟨rfl, H8⟩
          clear H7
          go_wp2_with fail
          refine (ses_on H8 (nE9 _ _ _ _)).mono ?_
          rintro e w9 ⟨rfl, H9⟩
          clear H8
          go_wp2_with fail
          refine (ses_read H9 len3 (nE7 logB _ _ _)).mono ?_
          rintro e w10 ⟨rfl, H10⟩
          clear H9
          go_wp2_with fail
          refine (ses_safe H10 len3 (nE6 _ _ _ _ _)).mono ?_
          rintro e w11 ⟨rfl, H11⟩
          clear H10
          go_wp2_with fail
          refine (ses_off H11 (by decide) (nE8 _ _ _ _)).mono ?_
          rintro e w12 ⟨rfl, H12⟩
          clear H11
          go_wp2_with fail
          refine (ses_on H12 (nE9 _ _ _ _)).mono ?_
          rintro e w13 ⟨rfl, H13⟩
          clear H12
          rw [T2.out] at H13
          go_wp2_with fail
          refine (ses_read H13 len3 (nE7 logB _ _ _)).mono ?_
          rintro e w14 ⟨rfl, H14⟩
          clear H13
          go_wp2
          go_ret
          exact ⟨rfl, H14.fr⟩
      · have hkn0 : kn = 0 := by
          have := HKN.out
          unfold keepN at this
          rwa [if_neg hpos] at this
        subst hkn0
        rw [Nat.add_zero] at X1 OF T2 htl HT
        have htl2 : (t.length : Int) = (safe : Int) := by omega
        clear htl hul
        rcases hexit with ⟨q1, q2⟩ | q1
        all_goals
          go_wp2_with fail
          refine (ses_off H4 hk OF.out).mono ?_
          rintro e w5 ⟨rfl, H5⟩
          clear H4
          go_wp2_with fail
          refine (ses_down H5 rfl).mono ?_
          rintro e w6 ⟨rfl, H6⟩
          clear H5
          go_wp2_with fail
          refine (ses_append H6 (by show st < _; omega) len3 (by decide) (keep_down _ _ _ _)).mono ?_
          rintro e w7 ⟨rfl, H7⟩
          clear H6
          go_wp2_with fail
          refine (ses_sync H7 (by show st < _; omega) len3 (keep_down2 _ _ _)).mono ?_
          rintro e w8 ⟨rfl, H8⟩
          clear H7
          go_wp2_with fail
          refine (ses_on H8 (nE9 _ _ _ _)).mono ?_
          rintro e w9 ⟨rfl, H9⟩
          clear H8
          go_wp2_with fail
          refine (ses_read H9 len3 (nE7 logB _ _ _)).mono ?_
          rintro e w10 ⟨rfl, H10⟩
          clear H9
          go_wp2_with fail
          refine (ses_safe H10 len3 (nE6 _ _ _ _ _)).mono ?_
          rintro e w11 ⟨rfl, H11⟩
          clear H10
          go_wp2_with fail
          refine (ses_off H11 (by decide) (nE8 _ _ _ _)).mono ?_
          rintro e w12 ⟨rfl, H12⟩
          clear H11
          go_wp2_with fail
          refine (ses_on H12 (nE9 _ _ _ _)).mono ?_
          rintro e w13 ⟨rfl, H13⟩
          clear H12
          rw [T2.out] at H13
          go_wp2_with fail
          refine (ses_read H13 len3 (nE7 logB _ _ _)).mono ?_
          rintro e w14 ⟨rfl, H14⟩
          clear H13
          go_wp2
          go_ret
          exact ⟨rfl, H14.fr⟩
end Go.Proofs.Ytplnfbhjplbpiaa
