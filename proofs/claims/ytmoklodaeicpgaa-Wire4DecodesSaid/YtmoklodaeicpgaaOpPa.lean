/-
  The document's own Parse (tenancyref13), and the walk of the law Opt4Parses: it returns true. Condition: an area has at most 2^60 bytes.
-/
import Derived.Test.YtmoklodaeicpgaaOpQc
namespace Go.Proofs.Ytmoklodaeicpgaa
open Go.RowKit Go.Joins Go.Maps

set_option maxRecDepth 100000 in
set_option maxHeartbeats 2000000 in
theorem rparse_any {v : Value} {ar : List ByteArray} (hl : ar.length ≤ 9223372036854775807) (hs : ∀ s ∈ ar, s.size ≤ 1152921504606846976) (w : World) (hv : LstS v ar w) :
    Calls Try.prog 34 #[v] w (ParseG ar w) := by
  have HV := hide (fun W (H : Below w.heap.size w W) => hv.step H)
  have HS := hide hs
  obtain ⟨p, c, rfl⟩ := lstS_len hv
  have O0 : OwnO (w.alloc (.cells #[] 47)) w.heap.size (.slice (some ⟨w.heap.size, 0, none⟩) 0 0) (optsOf []) := own_empty w
  have B0 := below_alloc w (.cells #[] 47)
  clear hv hs
  go_enter Try.func34, Try.ntmps34
  go_wp2
  generalize w.alloc (.cells #[] 47) = W0 at *
  generalize hR : parseL (ar.map lb) [] = R at *
  have HR := hide hR
  have H0 : ∃ S2, OwnO W0 w.heap.size (.slice (some ⟨w.heap.size, 0, none⟩) 0 0) (optsOf S2) ∧ GInv S2 ∧ parseL ((ar.drop 0).map lb) S2 = R := ⟨[], O0, ginv_nil, hR⟩
  clear hR O0
  go_loopw [4, 5] (fun s4 vi wr => ∃ k : Nat, k ≤ ar.length ∧ vi = .int .i64 (k : Nat) ∧ Below w.heap.size w wr ∧ Hid (∃ S2, OwnO wr w.heap.size s4 (optsOf S2) ∧ GInv S2 ∧ parseL ((ar.drop k).map lb) S2 = R)) (fun _ vi _ => ar.length - (intOf vi).toNat)
  case atStart => exact ⟨0, Nat.zero_le _, rfl, B0, hide H0⟩
  case round =>
    obtain ⟨k, hk, rfl, HB, HH⟩ := hrel
    clear H0 B0
    by_cases hlt : k < ar.length
    · obtain ⟨s, hx⟩ : ∃ s, ar[k]? = some s := ⟨_, List.getElem?_eq_getElem hlt⟩
      have hsz := HS.out s (List.mem_of_getElem? hx)
      obtain ⟨b, o, rfl, _, x1⟩ := lstS_at (HV.out _ HB) hx
      have PS := hide (parse_step hx)
      obtain ⟨S2, g1, g2, g3⟩ := HH.out
      have RD := hide (area_any s hsz wr g1 HB.size g2)
      have G3 := hide g3
      have G2 := hide g2
      clear HH g1 g2 g3 hx
      go_wp2_with fail
      refine RD.out.mono ?_
      rintro e w2 ⟨hb2, v2, rfl, hg2⟩
      have HB2 := hide (HB.trans hb2)
      have g3 := G3.out
      rw [PS.out] at g3
      by_cases he : (readA (lb s) S2).1 = 0
      · have F := hide (show ∃ S3, OwnO w2 w.heap.size v2 (optsOf S3) ∧ GInv S3 ∧ parseL ((ar.drop (k + 1)).map lb) S3 = R by
          rw [if_pos he] at g3
          exact ⟨_, hg2 he, ginv_read _ _ _ G2.out, g3⟩)
        clear g3 hg2 hb2
        generalize (readA (lb s) S2).1 = n at *
        subst he
        go_wp2
        go_roundw
        case rel => exact ⟨k + 1, hlt, by go_num, HB2.out, F⟩
        case measure => simp [intOf]; omega
      · have F := hide (show parseE (ar.map lb) = (readA (lb s) S2).1 ∧ parseO (ar.map lb) = [] by
          rw [if_neg he] at g3
          unfold parseO parseE
          rw [HR.out, ← g3, if_neg he]
          exact ⟨rfl, rfl⟩)
        have E0 : ¬ ((readA (lb s) S2).1 : Int) = 0 := by omega
        generalize (readA (lb s) S2).1 = n at *
        clear g3 hg2 hb2 he
        go_wp2
        go_ret2
        exact ⟨_, congrArg Ending.returned (tup2 rfl (by rw [F.out.1]; rfl)), HB2.out, by rw [F.out.2]; exact ownO_nil _ _⟩
    · have F := hide (show parseE (ar.map lb) = 0 ∧ OwnO wr w.heap.size u4 (parseO (ar.map lb)) by
        obtain ⟨S2, g1, g2, g3⟩ := HH.out
        rw [List.drop_of_length_le (by omega)] at g3
        have e : R = (0, S2) := g3.symm
        unfold parseO parseE
        rw [HR.out, e, if_pos rfl]
        exact ⟨rfl, g1⟩)
      clear HH
      go_wp2
      go_ret2
      exact ⟨_, congrArg Ending.returned (tup2 rfl (by rw [F.out.1]; rfl)), HB, F.out.2⟩
end Go.Proofs.Ytmoklodaeicpgaa
