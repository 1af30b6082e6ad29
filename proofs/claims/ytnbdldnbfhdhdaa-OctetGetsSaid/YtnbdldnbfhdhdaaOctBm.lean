/-
  Mathematics of OctetBack: what stands between two pieces is read as it was written. No program is called here. No condition beyond those in each theorem's own statement.
-/
import Derived.Test.YtnbdldnbfhdhdaaOctK
namespace Go.Proofs.Ytnbdldnbfhdhdaa
open Go.RowKit Go.Joins

theorem cat_list (h m : ByteArray) : (h ++ m).data.toList = h.data.toList ++ m.data.toList := by simp [ByteArray.data_append]
theorem cat_size (h m : ByteArray) : (h ++ m).size = h.size + m.size := by simp
theorem list_size (h : ByteArray) : h.data.toList.length = h.size := rfl
theorem mk_size (l : List UInt8) : (ByteArray.mk l.toArray).size = l.length := rfl
/-- the block g holds an address -/
def Bx (g a : Nat) (W : World) : Prop := W.cell? ⟨g, 0, none⟩ = some (.int .u64 (hi a : Nat)) ∧ W.cell? ⟨g, 1, none⟩ = some (.int .u64 (lo a : Nat))
theorem Bx.step {g a : Nat} {W w2 : World} (h : Bx g a W) (hb : Below W.heap.size W w2) : Bx g a w2 := ⟨keep_cell hb h.1, keep_cell hb h.2⟩
theorem bx_new (W : World) (a : Nat) (t : TypeId) : Bx W.heap.size a (W.alloc (.cells #[.int .u64 (hi a : Nat), .int .u64 (lo a : Nat)] t)) := by
  constructor <;> simp [go_sem]
theorem take_ext {l : List UInt8} {n : Nat} {t : ByteArray} (h : t = (ByteArray.mk l.toArray).extract 0 n) : t.data.toList = l.take n := by
  subst h
  rw [ByteArray.data_extract, Array.toList_extract, List.extract_eq_take_drop]
  simp
theorem size_ext {l : List UInt8} {n : Nat} (h : n ≤ l.length) : ((ByteArray.mk l.toArray).extract 0 n).size = n := by
  rw [ByteArray.size_extract, mk_size l]; omega

/-- a piece between two others -/
theorem sub_mid (h m r : ByteArray) : (sub (h ++ m ++ r) h.size m.size).data.toList = m.data.toList := by
  rw [sub_list, cat_list, cat_list, List.append_assoc, ← list_size h, List.drop_left, ← list_size m, List.take_left]
theorem sub_end (h m : ByteArray) : (sub (h ++ m) h.size m.size).data.toList = m.data.toList := by
  rw [sub_list, cat_list, ← list_size h, List.drop_left, ← list_size m, List.take_length]
theorem cut_mid {h m r : ByteArray} {n : Nat} (e : m.size = n) : cutO (h ++ m ++ r) (h.size : Int) (n : Int) = true := by
  unfold cutO
  rw [cat_size, cat_size]
  simp
  omega
theorem cut_end {h m : ByteArray} {n : Nat} (e : m.size = n) : cutO (h ++ m) (h.size : Int) (n : Int) = true := by
  unfold cutO
  rw [cat_size]
  simp
  omega
theorem get_mid {h m r : ByteArray} {n : Nat} (e : m.size = n) : getV n (h ++ m ++ r) (h.size : Int) = beV m.data.toList := by
  unfold getV
  rw [cut_yes (cut_mid e)]
  subst e
  rw [Int.toNat_natCast, Int.toNat_natCast, sub_mid]
theorem get_end {h m : ByteArray} {n : Nat} (e : m.size = n) : getV n (h ++ m) (h.size : Int) = beV m.data.toList := by
  unfold getV
  rw [cut_yes (cut_end e)]
  subst e
  rw [Int.toNat_natCast, Int.toNat_natCast, sub_end]
theorem getA_eq (s : ByteArray) (a : Int) : getA s a = getV 16 s a := rfl
theorem back_addr (h s : ByteArray) {a : Nat} (ha : Fits a) : getA (h ++ ⟨(beL 16 a).toArray⟩ ++ s) (h.size : Int) = a ∧ cutO (h ++ ⟨(beL 16 a).toArray⟩ ++ s) (h.size : Int) 16 = true := by
  have e : (ByteArray.mk (beL 16 a).toArray).size = 16 := beL_length 16 a
  exact ⟨by rw [getA_eq, get_mid e]; exact beV_beL ha, cut_mid e⟩
theorem back_num (S : Nat) (h s : ByteArray) {x : Nat} (hx : x < 256 ^ S) : getV S (h ++ ⟨(beL S x).toArray⟩ ++ s) (h.size : Int) = x ∧ cutO (h ++ ⟨(beL S x).toArray⟩ ++ s) (h.size : Int) (S : Int) = true := by
  have e : (ByteArray.mk (beL S x).toArray).size = S := beL_length S x
  exact ⟨by rw [get_mid e]; exact beV_beL hx, cut_mid e⟩
theorem back_low (h : ByteArray) (a : Nat) : getV 8 (h ++ ⟨(beL 16 a).toArray⟩) ((h.size : Int) + 8) = lo a ∧ cutO (h ++ ⟨(beL 16 a).toArray⟩) ((h.size : Int) + 8) 8 = true := by
  have e : h ++ ByteArray.mk (beL 16 a).toArray = (h ++ ⟨(beL 8 (hi a)).toArray⟩) ++ ⟨(beL 8 (lo a)).toArray⟩ := by
    rw [← beL_addr a]
    apply ByteArray.ext
    simp [ByteArray.data_append]
  have z : (h ++ ByteArray.mk (beL 8 (hi a)).toArray).size = h.size + 8 := by rw [cat_size, mk_size (beL 8 (hi a)), beL_length]
  have m : (ByteArray.mk (beL 8 (lo a)).toArray).size = 8 := beL_length 8 _
  rw [e, show (h.size : Int) + 8 = (((h ++ ByteArray.mk (beL 8 (hi a)).toArray).size : Nat) : Int) by rw [z]; omega]
  exact ⟨by rw [get_end m]; exact beV_beL (lo_lt a), cut_end m⟩
/-- what ends too early is none -/
theorem back_short {h t : ByteArray} {n : Nat} (e : t.size < n) : cutO (h ++ t) (h.size : Int) (n : Int) = false := by
  unfold cutO
  rw [cat_size]
  simp
  omega
theorem getA_no {s : ByteArray} {a : Int} (h : cutO s a 16 = false) : getA s a = 0 := getV_no (S := 16) h
/-- a run's bytes -/
def runL (s : ByteArray) : List UInt8 := beL 2 s.size ++ s.data.toList
theorem runL_len (s : ByteArray) : (runL s).length = 2 + s.size := by unfold runL; rw [List.length_append, beL_length, list_size]
theorem run_yes {s : ByteArray} (h : s.size ≤ 65535) : runV s = ⟨(runL s).toArray⟩ ∧ runO s = true := by
  have K : runO s = true := by unfold runO; simpa using h
  refine ⟨?_, K⟩
  unfold runV
  rw [K]
  rfl
theorem run_no {s : ByteArray} (h : ¬ s.size ≤ 65535) : runV s = ⟨#[]⟩ ∧ runO s = false := by
  have K : runO s = false := by unfold runO; simpa using h
  refine ⟨?_, K⟩
  unfold runV
  rw [K]
  rfl
theorem runL_cat (h s : ByteArray) : h ++ ByteArray.mk (runL s).toArray = h ++ ⟨(beL 2 s.size).toArray⟩ ++ s := by
  apply ByteArray.ext
  apply Array.toList_inj.1
  unfold runL
  simp [ByteArray.data_append]
theorem back_run (h r s : ByteArray) (hs : s.size ≤ 65535) : takeV (h ++ ⟨(runL s).toArray⟩ ++ r) (h.size : Int) = s ∧ takeE (h ++ ⟨(runL s).toArray⟩ ++ r) (h.size : Int) = (h.size : Int) + 2 + (s.size : Int) ∧ takeO (h ++ ⟨(runL s).toArray⟩ ++ r) (h.size : Int) = true := by
  have e0 : h ++ ByteArray.mk (runL s).toArray ++ r = h ++ ⟨(beL 2 s.size).toArray⟩ ++ (s ++ r) := by
    rw [runL_cat]
    apply ByteArray.ext
    simp [ByteArray.data_append]
  obtain ⟨g1, g2⟩ := back_num 2 h (s ++ r) (x := s.size) (by omega)
  have z : (h ++ ByteArray.mk (beL 2 s.size).toArray).size = h.size + 2 := by rw [cat_size, mk_size (beL 2 s.size), beL_length]
  have e1 : h ++ ByteArray.mk (beL 2 s.size).toArray ++ (s ++ r) = (h ++ ⟨(beL 2 s.size).toArray⟩) ++ s ++ r := by
    apply ByteArray.ext
    simp [ByteArray.data_append]
  have c2 : cutO (h ++ ⟨(beL 2 s.size).toArray⟩ ++ (s ++ r)) ((h.size : Int) + 2) (s.size : Int) = true := by
    rw [e1, show (h.size : Int) + 2 = (((h ++ ByteArray.mk (beL 2 s.size).toArray).size : Nat) : Int) by rw [z]; omega]
    exact cut_mid rfl
  rw [e0]
  generalize h ++ ByteArray.mk (beL 2 s.size).toArray ++ (s ++ r) = T at g1 g2 e1 c2 ⊢
  obtain ⟨k1, k2, k3⟩ := take_yes (s := T) (a := (h.size : Int)) g2 ((congrArg (fun n : Nat => cutO T ((h.size : Int) + 2) (n : Int)) g1).trans c2)
  rw [g1] at k1 k2
  refine ⟨?_, k2, k3⟩
  rw [k1, cut_yes c2, e1]
  have := sub_mid (h ++ ByteArray.mk (beL 2 s.size).toArray) s r
  rw [z] at this
  apply ByteArray.ext
  apply Array.toList_inj.1
  rw [show ((h.size : Int) + 2).toNat = h.size + 2 by omega, Int.toNat_natCast]
  exact this
theorem back_cut {h t s : ByteArray} (ht : t.data.toList = (runL s).take (s.size + 1)) (hs : s.size ≤ 65535) : takeV (h ++ t) (h.size : Int) = ⟨#[]⟩ ∧ takeE (h ++ t) (h.size : Int) = 0 ∧ takeO (h ++ t) (h.size : Int) = false := by
  have tl : t.size = s.size + 1 := by
    rw [← list_size t, ht, List.length_take, runL_len]; omega
  by_cases h0 : s.size = 0
  · exact take_no1 (back_short (n := 2) (by omega))
  · apply take_no2
    have e : t = ⟨(beL 2 s.size).toArray⟩ ++ ⟨(s.data.toList.take (s.size - 1)).toArray⟩ := by
      apply ByteArray.ext
      apply Array.toList_inj.1
      rw [ht]
      unfold runL
      rw [List.take_append, List.take_of_length_le (by rw [beL_length]; omega), beL_length, show s.size + 1 - 2 = s.size - 1 by omega]
      simp [ByteArray.data_append]
    have g1 := (back_num 2 h ⟨(s.data.toList.take (s.size - 1)).toArray⟩ (x := s.size) (by omega)).1
    have e2 : h ++ t = h ++ ⟨(beL 2 s.size).toArray⟩ ++ ⟨(s.data.toList.take (s.size - 1)).toArray⟩ := by
      rw [e]
      apply ByteArray.ext
      simp [ByteArray.data_append]
    rw [e2, g1, ← e2]
    unfold cutO
    rw [cat_size]
    simp
    omega
end Go.Proofs.Ytnbdldnbfhdhdaa
