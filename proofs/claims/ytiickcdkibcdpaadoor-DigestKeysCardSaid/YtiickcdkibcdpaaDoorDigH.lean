/-
  Contracts of mask and HMAC. Conditions: a string takes at most 2^47 bytes; the package's variables hold what its text lays.
-/
import Derived.Test.YtiickcdkibcdpaaDoorDigL
import Derived.Lib.BufferWrite
namespace Go.Proofs.YtiickcdkibcdpaaDoor
open Go.RowKit Go.Joins

/-- sixty-four bytes in a block -/
def Row64 (g : Nat) (f : Nat → UInt8) (W : World) : Prop := g < W.heap.size ∧ (∀ j, j < 64 → W.cell? ⟨g, j, none⟩ = some (byteV (f j))) ∧ ∀ j, W.frozen? ⟨g, j, none⟩ = false
theorem Row64.set {g : Nat} {f f' : Nat → UInt8} {W : World} (h : Row64 g f W) {k : Nat} (hk : k < 64) (h1 : ∀ j, j ≠ k → f' j = f j) : Row64 g f' (W.setCell ⟨g, k, none⟩ (byteV (f' k))) := by
  obtain ⟨h2, h3, h4⟩ := h
  refine ⟨by simpa using h2, fun i hi => ?_, fun i => by simpa using h4 i⟩
  by_cases e : i = k
  · subst e
    simp [go_sem, h3 i hi]
  · have h := World.cell?_setCells_out g [byteV (f' k)] k W ⟨g, i, none⟩ (fun _ _ => by simp; omega)
    exact (h.trans (h3 i hi)).trans (by rw [h1 i e])
def keyF (l : List UInt8) : Nat → UInt8 := fun j => (l ++ List.replicate (64 - l.length) 0).getD j 0
def maskF (l : List UInt8) (b : UInt8) (k : Nat) : Nat → UInt8 := fun j => if j < k then keyF l j ^^^ b else keyF l j
theorem maskF_next (l : List UInt8) (b : UInt8) {j k : Nat} (h : j ≠ k) : maskF l b (k + 1) j = maskF l b k j := by
  unfold maskF
  by_cases h2 : j < k
  · rw [if_pos h2, if_pos (by omega)]
  · rw [if_neg h2, if_neg (by omega)]
theorem byteCells_eq (l : List UInt8) : Lib.byteCells l = l.map byteV := rfl
theorem row64_new {W : World} {g : Nat} {l : List UInt8} {t : TypeId} {cs : List Value} (hl : l.length ≤ 64) (h : W.heap[g]? = some (.cells cs.toArray t (0, 0))) (e : cs = (l ++ List.replicate (64 - l.length) 0).map byteV) : Row64 g (keyF l) W := by
  refine ⟨?_, fun j hj => ?_, fun j => ?_⟩
  · rcases Nat.lt_or_ge g W.heap.size with h' | h'
    · exact h'
    · rw [Array.getElem?_eq_none h'] at h; cases h
  · rw [cell_of_row _ _ j _ _ _ h, List.getElem?_toArray, e, List.getElem?_map]
    have : j < (l ++ List.replicate (64 - l.length) 0).length := by simp; omega
    unfold keyF
    rw [List.getD_eq_getElem?_getD, List.getElem?_eq_getElem this]
    rfl
  · unfold World.frozen?
    simp [h]
theorem xor8 (x b : UInt8) : bits .xor .u8 (x.toNat : Int) (b.toNat : Int) = ((x ^^^ b).toNat : Int) := by
  rw [u8_xor_nat x.toNat b.toNat x.toNat_lt b.toNat_lt, UInt8.toNat_xor]
theorem maskF_out (l : List UInt8) (b : UInt8) (hl : l.length ≤ 64) (j : Nat) (hj : j < 64) : (maskL l b)[j]? = some (maskF l b 64 j) := by
  have : j < (l ++ List.replicate (64 - l.length) 0).length := by simp; omega
  unfold maskL maskF keyF
  rw [if_pos hj, List.getElem?_map, List.getElem?_eq_getElem this, List.getD_eq_getElem?_getD, List.getElem?_eq_getElem this]
  rfl
theorem conv_row64 {W : World} {g : Nat} {l : List UInt8} {b : UInt8} (hl : l.length ≤ 64) (h : Row64 g (maskF l b 64) W) :
    (convert 31 9 (.slice (some ⟨g, 0, none⟩) 64 64)).run Tryd.prog W = .ok (St (maskL l b)) W := by
  have e := mask_length b hl
  have := run_convert_bytes_back (P := Tryd.prog) W 31 9 5 ⟨g, 0, none⟩ 64 (maskL l b) Tryd.underlying31 Tryd.underlying5 Tryd.underlying9 (fun j hj => by
    have ha : (⟨g, 0, none⟩ : Go.Addr).add j = ⟨g, j, none⟩ := by cases j <;> simp [Addr.add]
    have h1 := maskF_out l b hl j (by omega)
    rw [List.getElem?_eq_getElem hj] at h1
    rw [ha, h.2.1 j (by omega), ← Option.some.inj h1]
    rfl)
  rw [e] at this
  exact this

theorem mask_copy {w V : World} {g : Nat} {t : TypeId} (s : ByteArray) (hs : s.size ≤ 64) (hg : V.heap[g]? = some (.cells ((List.replicate 64 (0 : UInt8)).map byteV).toArray t (0, 0))) (hb : Below w.heap.size w V) (hw : w.heap.size ≤ g) :
    ∃ V2, (∀ ty, (Builtin.copy_ #[31, 9] ty #[.slice (some ⟨g, 0, none⟩) 64 64, .string s]).run Tryd.prog V = .ok (goInt s.size) V2) ∧ Row64 g (keyF s.data.toList) V2 ∧ Below w.heap.size w V2 := by
  have hl : s.data.toList.length = s.size := rfl
  refine ⟨_, fun ty => Lib.run_copy_row_string (P := Tryd.prog) V 31 9 ty 5 g 0 64 64 s _ t Tryd.underlying31 (by kernel_rfl) hg hs (by simp; omega), ?_, below_setRow hb hw _⟩
  refine row64_new (by omega) (setRow_heap V g _ _ t _ hg) ?_
  rw [List.take_zero, List.nil_append, Nat.zero_add, List.toList_toArray, ← List.map_drop, List.drop_replicate, List.map_append, hl]
  rfl

set_option maxRecDepth 100000 in
set_option maxHeartbeats 1000000 in
theorem mask_any (s : ByteArray) (hs : s.size ≤ 64) (b : UInt8) (w : World) : Calls Tryd.prog 22 #[.string s, .int .u8 (b.toNat : Int)] w (Gives (St (maskL s.data.toList b)) w) := by
  have hl : s.data.toList.length ≤ 64 := hs
  have MC := mask_copy (t := 54) (V := w.alloc (.cells #[.int .u8 0, .int .u8 0, .int .u8 0, .int .u8 0, .int .u8 0, .int .u8 0, .int .u8 0, .int .u8 0, .int .u8 0, .int .u8 0, .int .u8 0, .int .u8 0, .int .u8 0, .int .u8 0, .int .u8 0, .int .u8 0, .int .u8 0, .int .u8 0, .int .u8 0, .int .u8 0, .int .u8 0, .int .u8 0, .int .u8 0, .int .u8 0, .int .u8 0, .int .u8 0, .int .u8 0, .int .u8 0, .int .u8 0, .int .u8 0, .int .u8 0, .int .u8 0, .int .u8 0, .int .u8 0, .int .u8 0, .int .u8 0, .int .u8 0, .int .u8 0, .int .u8 0, .int .u8 0, .int .u8 0, .int .u8 0, .int .u8 0, .int .u8 0, .int .u8 0, .int .u8 0, .int .u8 0, .int .u8 0, .int .u8 0, .int .u8 0, .int .u8 0, .int .u8 0, .int .u8 0, .int .u8 0, .int .u8 0, .int .u8 0, .int .u8 0, .int .u8 0, .int .u8 0, .int .u8 0, .int .u8 0, .int .u8 0, .int .u8 0, .int .u8 0] 54)) (g := w.heap.size) s hs (heap_alloc_new w _) (below_alloc w _) (Nat.le_refl _)
  go_enter Tryd.func22, Tryd.ntmps22
  go_upto_region 2 with fail
  generalize w.alloc (.cells #[.int .u8 0, .int .u8 0, .int .u8 0, .int .u8 0, .int .u8 0, .int .u8 0, .int .u8 0, .int .u8 0, .int .u8 0, .int .u8 0, .int .u8 0, .int .u8 0, .int .u8 0, .int .u8 0, .int .u8 0, .int .u8 0, .int .u8 0, .int .u8 0, .int .u8 0, .int .u8 0, .int .u8 0, .int .u8 0, .int .u8 0, .int .u8 0, .int .u8 0, .int .u8 0, .int .u8 0, .int .u8 0, .int .u8 0, .int .u8 0, .int .u8 0, .int .u8 0, .int .u8 0, .int .u8 0, .int .u8 0, .int .u8 0, .int .u8 0, .int .u8 0, .int .u8 0, .int .u8 0, .int .u8 0, .int .u8 0, .int .u8 0, .int .u8 0, .int .u8 0, .int .u8 0, .int .u8 0, .int .u8 0, .int .u8 0, .int .u8 0, .int .u8 0, .int .u8 0, .int .u8 0, .int .u8 0, .int .u8 0, .int .u8 0, .int .u8 0, .int .u8 0, .int .u8 0, .int .u8 0, .int .u8 0, .int .u8 0, .int .u8 0, .int .u8 0] 54) = V at *
  obtain ⟨V2, CP, R0, B0⟩ := MC
  go_wp2_with fail
  clear CP
  go_loopw [10] (fun i wr => ∃ k : Nat, k ≤ 64 ∧ i = .int .i64 (k : Int) ∧ Row64 w.heap.size (maskF s.data.toList b k) wr ∧ Below w.heap.size w wr) (fun i _ => 64 - (intOf i).toNat)
  case atStart => exact ⟨0, by omega, rfl, R0, B0⟩
  case round =>
    clear R0 B0
    obtain ⟨k, hk, rfl, R, hb⟩ := hrel
    by_cases hlt : k < 64
    · have k64 : (k : Int) < 64 := by omega
      have CK := R.2.1 k hlt
      have FK := R.2.2 k
      have LG := R.1
      have R2 := hide (R.set (f' := maskF s.data.toList b (k + 1)) hlt (fun j hj => maskF_next s.data.toList b hj))
      have e1 : maskF s.data.toList b (k + 1) k = maskF s.data.toList b k k ^^^ b := by unfold maskF; rw [if_pos (by omega), if_neg (by omega)]
      rw [e1] at R2
      have X := xor8 (maskF s.data.toList b k k) b
      generalize maskF s.data.toList b k k = x at *
      unfold byteV at CK R2
      generalize x ^^^ b = y at *
      clear e1
      go_wp2
      go_roundw
      case rel => exact ⟨k + 1, by omega, by go_num, R2.out, hb.setCell (by dsimp only; omega) _⟩
      case measure => simp [intOf] <;> omega
    · obtain H64 : k = 64 := by omega
      have CV := conv_row64 hl (by rw [← H64]; exact R)
      clear H64 R
      go_wp2
      go_ret
      exact ⟨rfl, hb⟩

theorem app_list (l : List UInt8) (s : ByteArray) : (ByteArray.mk l.toArray ++ s).data.toList = l ++ s.data.toList := by simp [ByteArray.data_append]
theorem app_size (l : List UInt8) (s : ByteArray) : (ByteArray.mk l.toArray ++ s).size = l.length + s.size := by
  show (ByteArray.mk l.toArray ++ s).data.toList.length = _
  rw [app_list, List.length_append]; rfl
set_option maxRecDepth 100000 in
set_option maxHeartbeats 1000000 in
theorem hmac_any (key s : ByteArray) (hk : key.size ≤ 140737488353000) (hs : s.size ≤ 140737488353000) (w : World) (hv : VO w) :
    Calls Tryd.prog 13 #[.string key, .string s] w (Gives (St (hmacL key.data.toList s.data.toList)) w) := by
  have KL := key_length key.data.toList
  have M5 := hide (fun W (h : VO W) => md5_any key (by omega) W h)
  have HK := hide (show keyL key.data.toList = if 64 < key.size then md5L key.data.toList else key.data.toList from rfl)
  have HR := hide (show hmacL key.data.toList s.data.toList = md5L (maskL (keyL key.data.toList) 92 ++ md5L (maskL (keyL key.data.toList) 54 ++ s.data.toList)) from rfl)
  generalize hmacL key.data.toList s.data.toList = res at *
  generalize keyL key.data.toList = kl at *
  have KLa : (ByteArray.mk kl.toArray).size ≤ 64 := KL
  have MO := hide (fun W => mask_any ⟨kl.toArray⟩ KLa 92 W)
  have MI := hide (fun W => mask_any ⟨kl.toArray⟩ KLa 54 W)
  rw [show (((92 : UInt8).toNat : Nat) : Int) = 92 from rfl, show (ByteArray.mk kl.toArray).data.toList = kl from rfl] at MO
  rw [show (((54 : UInt8).toNat : Nat) : Int) = 54 from rfl, show (ByteArray.mk kl.toArray).data.toList = kl from rfl] at MI
  have LO := mask_length 92 KL
  have LI := mask_length 54 KL
  generalize maskL kl 92 = lo at *
  generalize maskL kl 54 = li at *
  have DI := hide (fun W h => md5_any (⟨li.toArray⟩ ++ s) (by rw [app_size, LI]; omega) W h)
  rw [app_list] at DI
  have LM := md5_length (li ++ s.data.toList)
  generalize md5L (li ++ s.data.toList) = mi at *
  have DO := hide (fun W h => md5_any (⟨lo.toArray⟩ ++ ⟨mi.toArray⟩) (by rw [app_size, LO]; show 64 + mi.length ≤ _; omega) W h)
  rw [app_list, show (ByteArray.mk mi.toArray).data.toList = mi from rfl, ← HR.out] at DO
  have N1 : ¬ 9223372036854775807 < li.length + s.size := by omega
  have N2 : ¬ 9223372036854775807 < lo.length + mi.length := by omega
  clear KLa KL HR LO LI LM
  by_cases h : 64 < key.size
  · have h1 : (64 : Int) < (key.size : Int) := by omega
    rw [if_pos h] at HK
    rw [← HK.out] at M5
    clear HK h
    go_enter Tryd.func13, Tryd.ntmps13
    go_wp2_with fail
    refine (M5.out _ hv).mono ?_
    rintro e w1 ⟨rfl, hb1⟩
    have V1 := hv.step hb1
    go_wp2_with fail
    refine (MO.out _).mono ?_
    rintro e w2 ⟨rfl, hb2⟩
    have V2 := V1.step hb2
    have B2 := chain hb1 hb2
    clear hb1 hb2 V1
    go_wp2_with fail
    refine (MI.out _).mono ?_
    rintro e w3 ⟨rfl, hb3⟩
    have V3 := V2.step hb3
    have B3 := chain B2 hb3
    clear V2 B2 hb3
    go_wp2_with fail
    refine (DI.out _ V3).mono ?_
    rintro e w4 ⟨rfl, hb4⟩
    have V4' := V3.step hb4
    have B4 := chain B3 hb4
    clear V3 B3 hb4
    go_wp2_with fail
    refine (DO.out _ V4').mono ?_
    rintro e w5 ⟨rfl, hb5⟩
    go_wp2
    go_ret
    exact ⟨rfl, chain B4 hb5⟩
  · have h1 : ¬ (64 : Int) < (key.size : Int) := by omega
    rw [if_neg h] at HK
    obtain rfl : key = ⟨kl.toArray⟩ := by rw [HK.out]
    clear HK h M5
    go_enter Tryd.func13, Tryd.ntmps13
    go_wp2_with fail
    refine (MO.out _).mono ?_
    rintro e w2 ⟨rfl, hb2⟩
    have V2 := hv.step hb2
    go_wp2_with fail
    refine (MI.out _).mono ?_
    rintro e w3 ⟨rfl, hb3⟩
    have V3 := V2.step hb3
    have B3 := chain hb2 hb3
    clear V2 hb2 hb3
    go_wp2_with fail
    refine (DI.out _ V3).mono ?_
    rintro e w4 ⟨rfl, hb4⟩
    have V4' := V3.step hb4
    have B4 := chain B3 hb4
    clear V3 B3 hb4
    go_wp2_with fail
    refine (DO.out _ V4').mono ?_
    rintro e w5 ⟨rfl, hb5⟩
    go_wp2
    go_ret
    exact ⟨rfl, chain B4 hb5⟩
end Go.Proofs.YtiickcdkibcdpaaDoor
