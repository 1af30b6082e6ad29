/-
  Mathematics of WalSpoilt: a frame of which one byte behind the length is another, or whose last byte is missing, is no right frame. No condition beyond those in each theorem's own statement.
-/
import Derived.Test.YtnaedngbcndakaaRowV
import Derived.Test.YtnaedngbcndakaaWalM
namespace Go.Proofs.Ytnaedngbcndakaa
open Go

theorem crcN_inj {r a b : Nat} (ha : a < 256) (hb : b < 256) (h : a ≠ b) : crcN 8 (r ^^^ a) ≠ crcN 8 (r ^^^ b) := by
  intro e
  have h1 : crcN 8 ((r ^^^ a) ^^^ (r ^^^ b)) = 0 := by rw [crcN_xor, e, Nat.xor_self]
  rw [Nat.xor_comm r a, Nat.xor_comm r b, xor_swap] at h1
  exact crcN_ne (xor_lt (by omega) (by omega)) (xor_ne h) 8 h1
theorem crcL_set (p : List UInt8) (j : Nat) (hj : j < p.length) (v : UInt8) (hv : v ≠ p[j]) : crcL (p.set j v) ≠ crcL p := by
  have hF : crcF (p.set j v) 4294967295 ≠ crcF p 4294967295 := by
    have e1 : p.set j v = p.take j ++ v :: p.drop (j + 1) := List.set_eq_take_append_cons_drop.trans (if_pos hj)
    have e2 : p = p.take j ++ p[j] :: p.drop (j + 1) := by
      conv => lhs; rw [← List.take_append_drop j p, List.drop_eq_getElem_cons hj]
    have e3 : crcF p 4294967295 = crcF (p.drop (j + 1)) (crcN 8 (crcF (p.take j) 4294967295 ^^^ (p[j]).toNat)) := by
      conv => lhs; rw [e2, crcF_app]
      rfl
    have e4 : crcF (p.set j v) 4294967295 = crcF (p.drop (j + 1)) (crcN 8 (crcF (p.take j) 4294967295 ^^^ v.toNat)) := by
      rw [e1, crcF_app]; rfl
    rw [e3, e4]
    have hr := crcF_lt (p.take j) 4294967295 (by omega)
    have b1 := byte_lt v
    have b2 := byte_lt p[j]
    refine crcF_ne _ (crcN_lt (xor_lt hr (by omega)) 8) (crcN_lt (xor_lt hr (by omega)) 8) (crcN_inj b1 b2 (fun e => hv (UInt8.toNat_inj.1 e)))
  intro e
  refine hF ?_
  unfold crcL at e
  have := congrArg (· ^^^ 4294967295) e
  simpa [Nat.xor_assoc] using this
/-- one byte behind the length is another -/
theorem spoilt_none {p : List UInt8} (h : recOk p) (i : Nat) (h4 : 4 ≤ i) (hi : i < (frameL p).length) (v : UInt8) (hv : v ≠ (frameL p)[i]) (r : List UInt8) : takeL ((frameL p).set i v ++ r) = none := by
  have hp := h.2
  have hfl := frame_length p
  have cl : ((frameL p).set i v).length = 8 + p.length := by rw [List.length_set, hfl]
  have f4 : (frameL p).take 4 = beL 4 p.length := by unfold frameL; exact four_len _ _
  have d4 : (frameL p).drop 4 = beL 4 (crcL p) ++ p := by unfold frameL; exact four_drop _ _
  have t4 : ((frameL p).set i v).take 4 = beL 4 p.length := by
    rw [List.take_set, f4, List.set_eq_of_length_le (by rw [beL_length]; exact h4)]
  have dd : ((frameL p).set i v).drop 4 = (beL 4 (crcL p) ++ p).set (i - 4) v := by
    rw [List.drop_set, if_neg (by omega), d4]
  have L : lenL ((frameL p).set i v ++ r) = p.length := by
    unfold lenL
    rw [List.take_append_of_le_length (by rw [cl]; omega), t4, beV_beL (by omega)]
  have gx : (frameL p)[i] = (beL 4 (crcL p) ++ p)[i - 4]'(by rw [List.length_append, beL_length]; omega) := by
    have : (frameL p)[i]? = ((frameL p).drop 4)[i - 4]? := by rw [List.getElem?_drop]; congr 1; omega
    rw [d4] at this
    rw [List.getElem?_eq_getElem hi, List.getElem?_eq_getElem (by rw [List.length_append, beL_length]; omega)] at this
    exact Option.some.inj this
  have S : sumL ((frameL p).set i v ++ r) = beV (((beL 4 (crcL p) ++ p).set (i - 4) v).take 4) := by
    unfold sumL
    rw [List.drop_append_of_le_length (by rw [cl]; omega), List.take_append_of_le_length (by rw [List.length_drop, cl]; omega), dd]
  have R : recL ((frameL p).set i v ++ r) = ((beL 4 (crcL p) ++ p).set (i - 4) v).drop 4 := by
    unfold recL
    rw [L, List.drop_append_of_le_length (by rw [cl]; omega), show (8 : Nat) = 4 + 4 from rfl, ← List.drop_drop, dd]
    refine List.take_left' ?_
    rw [List.length_drop, List.length_set, List.length_append, beL_length]; omega
  unfold takeL
  rw [if_neg]
  rintro ⟨_, _, _, _, e⟩
  rw [R, S] at e
  by_cases h8 : i < 8
  · rw [List.drop_set, if_pos (by omega), List.drop_left' (beL_length 4 _), List.take_set, List.take_left' (beL_length 4 _)] at e
    have e2 : beL 4 (crcL p) = (beL 4 (crcL p)).set (i - 4) v := by
      have := beV_inj4 ((beL 4 (crcL p)).set (i - 4) v) (by rw [List.length_set, beL_length])
      rw [← e] at this
      exact this
    have hl : i - 4 < (beL 4 (crcL p)).length := by rw [beL_length]; omega
    have e3 : (beL 4 (crcL p))[i - 4]? = some v := by
      rw [e2, List.getElem?_set_self hl]
    rw [List.getElem?_eq_getElem hl] at e3
    rw [gx, List.getElem_append_left hl] at hv
    exact hv (Option.some.inj e3).symm
  · have hs : (beL 4 (crcL p)).set (i - 4) v = beL 4 (crcL p) := List.set_eq_of_length_le (by rw [beL_length]; omega)
    rw [List.drop_set, if_neg (by omega), List.drop_left' (beL_length 4 _), List.take_set, List.take_left' (beL_length 4 _), hs, beV_beL (show crcL p < 256 ^ 4 from crcL_lt p)] at e
    rw [gx, List.getElem_append_right (by rw [beL_length]; omega)] at hv
    have hj : i - 4 - 4 < p.length := by omega
    have e3 : p[i - 4 - 4]'hj = p[i - 4 - (beL 4 (crcL p)).length]'(by rw [beL_length]; exact hj) := by congr 1
    exact crcL_set p (i - 4 - 4) hj v (fun e2 => hv (e2.trans e3)) e
theorem scan_spoilt {a p : List UInt8} (ha : recOk a) (h : recOk p) (i : Nat) (h4 : 4 ≤ i) (hi : i < (frameL p).length) (v : UInt8) (hv : v ≠ (frameL p)[i]) (r : List UInt8) : scanL (frameL a ++ (frameL p).set i v ++ r) = [a] :=
  scan_of (r := (frameL p).set i v ++ r) (fun q hq => by rw [List.mem_singleton.1 hq]; exact ha) (spoilt_none h i h4 hi v hv r) (by rw [frames_cons, frames_nil, List.append_nil, List.append_assoc])
theorem scan_torn {a p : List UInt8} (ha : recOk a) (h : recOk p) {k : Nat} (hk : k < 8 + p.length) : scanL (frameL a ++ (frameL p).take k) = [a] :=
  scan_of (r := (frameL p).take k) (fun q hq => by rw [List.mem_singleton.1 hq]; exact ha) (torn_none h hk) (by rw [frames_cons, frames_nil, List.append_nil])
theorem size_one (a : List UInt8) : sizeL [a] = 8 + a.length := by rw [size_cons, size_nil]; omega
theorem mask_ne (x : UInt8) (k : Nat) (h : k < 8) : x ^^^ UInt8.ofNat (2 ^ k) ≠ x := by
  have hm : UInt8.ofNat (2 ^ k) ≠ 0 := by
    rcases (show k = 0 ∨ k = 1 ∨ k = 2 ∨ k = 3 ∨ k = 4 ∨ k = 5 ∨ k = 6 ∨ k = 7 by omega) with rfl | rfl | rfl | rfl | rfl | rfl | rfl | rfl <;> decide
  intro e
  refine hm ?_
  have := congrArg (x ^^^ ·) e
  simpa [← UInt8.xor_assoc] using this
end Go.Proofs.Ytnaedngbcndakaa
