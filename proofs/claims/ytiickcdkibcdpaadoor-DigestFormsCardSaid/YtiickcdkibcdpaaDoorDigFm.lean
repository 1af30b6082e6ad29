/-
  The law DigestForms returns true. Conditions: strings take at most 2^47 - 4096 bytes; the package's variables hold what its text lays.
-/
import Derived.Test.YtiickcdkibcdpaaDoorDigK
namespace Go.Proofs.YtiickcdkibcdpaaDoor
open Go.RowKit Go.Joins

theorem hmac_long {k : List UInt8} (s : List UInt8) (h : 64 < k.length) : hmacL (md5L k) s = hmacL k s := by
  have e1 : keyL (md5L k) = md5L k := by unfold keyL; rw [if_neg (by rw [md5_length]; omega)]
  have e2 : keyL k = md5L k := by unfold keyL; rw [if_pos h]
  unfold hmacL
  rw [e1, e2]
theorem hmac_zero {k : List UInt8} (s : List UInt8) (h : k.length < 64) : hmacL (k ++ [0]) s = hmacL k s := by
  have e1 : keyL (k ++ [0]) = k ++ [0] := by unfold keyL; rw [if_neg (by rw [List.length_append]; show ¬ 64 < k.length + 1; omega)]
  have e2 : keyL k = k := by unfold keyL; rw [if_neg (by omega)]
  have e3 : ∀ b, maskL (k ++ [0]) b = maskL k b := fun b => by
    unfold maskL
    rw [List.append_assoc, List.length_append, show 64 - k.length = (64 - (k.length + [(0 : UInt8)].length)) + 1 by show _ = (64 - (k.length + 1)) + 1; omega, List.replicate_succ]
    rfl
  unfold hmacL
  rw [e1, e2, e3, e3]

set_option maxRecDepth 100000 in
set_option maxHeartbeats 1000000 in
theorem forms_any (key s : ByteArray) (hk : key.size ≤ 140737488351232) (hs : s.size ≤ 140737488351232) (w : World) (hv : VO w) :
    Calls Tryd.prog 7 #[.string key, .string s] w (Gives (.bool true) w) := by
  have AW := hide (fun W h => awake_any W h)
  have HM := hide (fun (kb : ByteArray) (h : kb.size ≤ 140737488353000) W hV => hmac_any kb s h (by omega) W hV)
  have H0 := hide (fun W hV => hmac_any key s (by omega) (by omega) W hV)
  have M0 := hide (fun W hV => md5_any s (by omega) W hV)
  have MK := hide (fun W hV => md5_any key (by omega) W hV)
  have L1 := md5_length s.data.toList
  have L2 : (hmacL key.data.toList s.data.toList).length = 16 := md5_length _
  have HL := hide (fun h => hmac_long (k := key.data.toList) s.data.toList h)
  have LK := md5_length key.data.toList
  obtain ⟨res, hres⟩ : ∃ res, res = hmacL key.data.toList s.data.toList := ⟨_, rfl⟩
  rw [← hres] at H0 L2
  have HR := hide hres.symm
  clear hres
  generalize md5L s.data.toList = m at *
  by_cases h : 64 < key.size
  · have h1 : (64 : Int) < (key.size : Int) := by omega
    have HX := hide (fun W hV => hmac_any ⟨(md5L key.data.toList).toArray⟩ s (show (md5L key.data.toList).length ≤ _ by omega) (by omega) W hV)
    rw [show (ByteArray.mk (md5L key.data.toList).toArray).data.toList = md5L key.data.toList from rfl, HL.out h, HR.out] at HX
    generalize md5L key.data.toList = mk at *
    clear h HL HR HM LK
    go_enter Tryd.func7, Tryd.ntmps7
    go_wp2_with fail
    refine (AW.out _ hv).mono ?_
    rintro e w1 ⟨rfl, hb1⟩
    have V1 := hv.step hb1
    go_wp2_with fail
    refine (H0.out _ V1).mono ?_
    rintro e w2 ⟨rfl, hb2⟩
    have V2 := V1.step hb2
    have B2 := chain hb1 hb2
    clear V1 hb1 hb2
    go_wp2_with fail
    refine (M0.out _ V2).mono ?_
    rintro e w3 ⟨rfl, hb3⟩
    have V3 := V2.step hb3
    have B3 := chain B2 hb3
    clear V2 B2 hb3
    go_wp2_with fail
    refine (MK.out _ V3).mono ?_
    rintro e w4 ⟨rfl, hb4⟩
    have V4' := V3.step hb4
    have B4 := chain B3 hb4
    clear V3 B3 hb4
    go_wp2_with fail
    refine (HX.out _ V4').mono ?_
    rintro e w5 ⟨rfl, hb5⟩
    have B5 := chain B4 hb5
    clear V4' B4 hb5
    go_wp2
    go_ret
    exact ⟨rfl, B5⟩
  · have h1 : ¬ (64 : Int) < (key.size : Int) := by omega
    clear HL MK LK
    go_enter Tryd.func7, Tryd.ntmps7
    go_wp2_with fail
    refine (AW.out _ hv).mono ?_
    rintro e w1 ⟨rfl, hb1⟩
    have V1 := hv.step hb1
    go_wp2_with fail
    refine (H0.out _ V1).mono ?_
    rintro e w2 ⟨rfl, hb2⟩
    have V2 := V1.step hb2
    have B2 := chain hb1 hb2
    clear V1 hb1 hb2
    go_wp2_with fail
    refine (M0.out _ V2).mono ?_
    rintro e w3 ⟨rfl, hb3⟩
    have V3 := V2.step hb3
    have B3 := chain B2 hb3
    clear V2 B2 hb3
    go_wp2_with fail
    go_loopw [0] (fun v wr => ∃ kb : ByteArray, v = .string kb ∧ kb.size ≤ 64 ∧ Hid (hmacL kb.data.toList s.data.toList = res) ∧ VO wr ∧ Below w.heap.size w wr) (fun v _ => 64 - (match v with | .string kb => kb.size | _ => 0))
    case atStart => exact ⟨key, rfl, by omega, HR, V3, B3⟩
    case round =>
      clear V3 B3 HR h h1
      obtain ⟨kb, rfl, hkb, E, V, HB⟩ := hrel
      by_cases hlt : kb.size < 64
      · have N1 : ¬ 9223372036854775807 < kb.size + 1 := by omega
        have hz : (kb ++ (⟨#[0]⟩ : ByteArray)).size = kb.size + 1 := by rw [ByteArray.size_append]; rfl
        have E2 := hide (show hmacL (kb ++ (⟨#[0]⟩ : ByteArray)).data.toList s.data.toList = res by
          rw [← E.out, ← hmac_zero s.data.toList (show kb.data.toList.length < 64 from hlt)]
          congr 1)
        have X := hide (HM.out (kb ++ (⟨#[0]⟩ : ByteArray)) (by omega))
        rw [E2.out] at X
        have hlt2 : (kb.size : Int) < 64 := by omega
        generalize hk2 : kb ++ (⟨#[0]⟩ : ByteArray) = k2 at *
        clear E
        go_wp2_with fail
        refine (X.out _ V).mono ?_
        rintro e w4 ⟨rfl, hb4⟩
        have V4' := V.step hb4
        have B4 := chain HB hb4
        clear V HB hb4 X
        go_wp2
        go_roundw
        case rel => exact ⟨k2, rfl, by omega, E2, V4', B4⟩
        case measure => simp; omega
      · have hlt2 : ¬ (kb.size : Int) < 64 := by omega
        clear E
        go_wp2
        go_ret
        exact ⟨rfl, HB⟩
end Go.Proofs.YtiickcdkibcdpaaDoor
