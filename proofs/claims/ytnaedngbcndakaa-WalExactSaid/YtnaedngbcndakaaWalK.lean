/-
  The law's own awake returns true. No condition.
-/
import Derived.Test.YtnaedngbcndakaaWalS
namespace Go.Proofs.Ytnaedngbcndakaa
open Go.RowKit Go.Maps

abbrev nLog : Nm := [108, 111, 103]
abbrev fA : Nm := [0, 0, 0, 1, 232, 183, 190, 67, 97]
theorem len3 : (nLog).length ≤ maxLen := by decide
def kA1 : Dk := ⟨[⟨nLog, fA, 0⟩], false, -1, 0, 1⟩
def kA2 : Dk := ⟨[⟨nLog, fA, 9⟩], false, -1, 0, 2⟩
theorem kE0 : recOk [97] := by decide
theorem kE1 : frameL [97] = fA := by kernel_rfl
theorem kE2 : scanL (fA ++ fA ++ [97, 98, 99]) = [[97], [97]] := by kernel_rfl
theorem kE3 : sizeL [[97], [97]] = 18 := by kernel_rfl
theorem kE4 : lopenD nLog newD = (0, [], newD) := by kernel_rfl
theorem kE5 : lappD nLog [97] 0 false newD = (0, (9, false), kA1) := by kernel_rfl
theorem kE6 : lsyncD nLog 9 false kA1 = (0, (9, false), kA2) := by kernel_rfl
theorem kE7 : readD kA2 nLog = (fA, 0) := by kernel_rfl
theorem kE8 : ((({ data := #[0, 0, 0, 1, 232, 183, 190, 67, 97] } : ByteArray) ++ { data := #[0, 0, 0, 1, 232, 183, 190, 67, 97] }) ++ { data := #[97, 98, 99] }) = { data := (fA ++ fA ++ [97, 98, 99]).toArray } := by
  apply ByteArray.ext
  simp
theorem two_rows (w : World) : RowS (w.alloc (.cells #[St [97], St [97]] 9)) (.slice (some ⟨w.heap.size, 0, none⟩) 2 2) [[97], [97]] := ⟨_, 2, rfl, fun j y hj => ⟨_, rfl, by
  rw [cell_at (MapKept.heap_alloc w _).1]
  match j, hj with
  | 0, hj => cases hj; rfl
  | 1, hj => cases hj; rfl⟩⟩
set_option maxRecDepth 100000 in
set_option maxHeartbeats 1000000 in
theorem awake_any (w : World) : Calls Try.prog 7 #[] w (Tells w (.bool true)) := by
  have C8 := kE8
  have FR := hide (fun W => frame_ok [97] kE0 W)
  rw [kE1] at FR
  have SC := hide (fun W => scan_any (fA ++ fA ++ [97, 98, 99]) (by decide) W)
  unfold GivesScan at SC
  rw [kE2, kE3] at SC
  go_enter Try.func7, Try.ntmps7
  go_wp2_with fail
  refine (FR.out w).mono ?_
  rintro e w1 ⟨rfl, F1⟩
  go_wp2_with fail
  refine (SC.out _).mono ?_
  rintro e w2 ⟨v1, rfl, B2, R2⟩
  have F2 := hide (F1.andNo (Fr.ofBelow B2))
  have R2' := hide (RowS.own R2)
  clear R2 B2 F1
  go_wp2_with fail
  refine (sd_new (Fr.refl _ w2)).mono ?_
  rintro e w3 ⟨d, rfl, H3⟩
  go_wp2_with fail
  refine (sd_open H3 (by decide) len3 kE4).mono ?_
  rintro e w4 ⟨g, v, rfl, H4, RV, _⟩
  obtain ⟨pv, cv, rfl, _⟩ := RV.1
  clear H3
  go_wp2_with fail
  refine (sk_lappend H4 (by decide) len3 (by decide) kE5).mono ?_
  rintro e w5 ⟨rfl, H5, _⟩
  clear H4
  go_wp2_with fail
  refine (sk_lsync H5 (by decide) len3 kE6).mono ?_
  rintro e w6 ⟨rfl, H6, _⟩
  clear H5
  go_wp2_with fail
  refine (sk_read H6 len3 kE7).mono ?_
  rintro e w7 ⟨rfl, H7, _⟩
  clear H6
  have RA := R2'.out.no H7.fr
  have FA := Fr.alloc w7 (.cells #[St [97], St [97]] 9)
  have SM := hide (same_rows (RA.no FA) (two_rows w7) (by decide) (H7.no FA) (q := true) (by decide))
  clear H7 RA FA R2'
  go_wp2_with fail
  refine SM.out.mono ?_
  rintro e w8 ⟨rfl, H8, _⟩
  go_wp2_with fail
  refine (sk_size H8).mono ?_
  rintro e w9 ⟨rfl, H9, _⟩
  go_wp2
  go_ret
  exact ⟨rfl, F2.out.andNo H9.fr⟩
end Go.Proofs.Ytnaedngbcndakaa
