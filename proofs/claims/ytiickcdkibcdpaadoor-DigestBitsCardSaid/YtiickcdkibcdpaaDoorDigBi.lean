/-
  The law DigestBits returns true. Conditions: a string takes at most 2^47 - 4096 bytes; the package's variables hold what its text lays.
-/
import Derived.Test.YtiickcdkibcdpaaDoorDigBm
namespace Go.Proofs.YtiickcdkibcdpaaDoor
open Go.RowKit Go.Joins

theorem rest_int (s : Nat) (a : Int) (h : ¬ (s : Int) < 4) (hs : s ≤ 140737488351232) : ∃ K : Nat, wrap64 ((IntKind.u64.wrap a).tmod ((s : Int) - 3)) = (K : Int) ∧ K + 4 ≤ s := by
  have hx : 0 ≤ IntKind.u64.wrap a := by rw [IntKind.wrap_u64]; omega
  have h1 := Int.tmod_nonneg ((s : Int) - 3) hx
  have h2 := Int.tmod_lt_of_pos (IntKind.u64.wrap a) (show 0 < (s : Int) - 3 by omega)
  refine ⟨((IntKind.u64.wrap a).tmod ((s : Int) - 3)).toNat, ?_, by omega⟩
  unfold wrap64
  omega

set_option maxRecDepth 100000 in
set_option maxHeartbeats 2000000 in
theorem bits_any (s : ByteArray) (a m : Int) (hz : s.size ≤ 140737488351232) (_ : -9223372036854775808 ≤ a ∧ a ≤ 9223372036854775807) (hm : 0 ≤ m ∧ m ≤ 4294967295) (w : World) (hv : VO w) :
    Calls Tryd.prog 6 #[.string s, .int .i64 a, .int .u32 m] w (Gives (.bool true) w) := by
  have AW := hide (awake_any w hv)
  obtain ⟨M, rfl⟩ : ∃ M : Nat, m = (M : Int) := ⟨m.toNat, by omega⟩
  have hM : M < 4294967296 := by omega
  by_cases h4 : s.size < 4
  · have h5 : (s.size : Int) < 4 := by omega
    clear hz hm hM h4
    go_enter Tryd.func6, Tryd.ntmps6
    go_wp2_with fail
    refine AW.out.mono ?_
    rintro e w1 ⟨rfl, hb⟩
    go_wp2
    go_ret
    exact ⟨rfl, hb⟩
  have h5 : ¬ (s.size : Int) < 4 := by omega
  by_cases h0 : M = 0
  · subst h0
    clear hz hm hM h4
    go_enter Tryd.func6, Tryd.ntmps6
    go_wp2_with fail
    refine AW.out.mono ?_
    rintro e w1 ⟨rfl, hb⟩
    go_wp2
    go_ret
    exact ⟨rfl, hb⟩
  have h1 : ((M : Int) == 0) = false := by simpa using h0
  have h6 : decide ((s.size : Int) < 4) = false := by simpa using h5
  obtain ⟨K, KE, hK⟩ := rest_int s.size a h5 hz
  have hL : s.data.toList.length = s.size := rfl
  have lb := bitL_length s.data.toList K M
  have NE := bit_ne (l := s.data.toList) (k := K) (m := M) (by omega) hM h0
  have C1 := hide (fun W => crc_any ⟨(bitL s.data.toList K M).toArray⟩ (show (bitL s.data.toList K M).length ≤ maxLen by unfold maxLen; omega) W)
  have C2 := hide (fun W => crc_any s (by unfold maxLen; omega) W)
  rw [show (ByteArray.mk (bitL s.data.toList K M).toArray).data.toList = bitL s.data.toList K M from rfl] at C1
  have NF : ((crcL (bitL s.data.toList K M) : Int) != (crcL s.data.toList : Int)) = true := by
    have : ¬ (crcL (bitL s.data.toList K M) : Int) = (crcL s.data.toList : Int) := fun e => NE (by omega)
    simpa using this
  generalize crcL (bitL s.data.toList K M) = ra at *
  generalize crcL s.data.toList = rb at *
  clear NE h0 h4
  go_enter Tryd.func6, Tryd.ntmps6
  go_wp2_with fail
  refine AW.out.mono ?_
  rintro e w1 ⟨rfl, hb⟩
  obtain ⟨cap0, w2, CV, R0, B0⟩ := conv_bytes w1 s
  have R0 : RowN w1.heap.size s.size (bitF s.data.toList K M 0) w2 := by
    refine ⟨R0.1, fun j hj => ?_, R0.2.2⟩
    rw [R0.2.1 j hj]
    unfold bitF
    rw [if_neg (by omega)]
  have HB0 := chain hb B0
  clear B0 AW
  go_wp2_with fail
  clear CV
  go_loopw [9] (fun i wr => ∃ k : Nat, k ≤ 4 ∧ i = .int .i64 (k : Int) ∧ RowN w1.heap.size s.size (bitF s.data.toList K M k) wr ∧ Below w.heap.size w wr) (fun i _ => 4 - (intOf i).toNat)
  case atStart => exact ⟨0, by omega, rfl, R0, HB0⟩
  case round =>
    clear R0 HB0
    obtain ⟨k, hk, rfl, R, HB⟩ := hrel
    by_cases hlt : k < 4
    · have e1 : bitF s.data.toList K M (k + 1) (K + k) = bitF s.data.toList K M k (K + k) ^^^ mb M k := by
        unfold bitF; rw [if_pos (by omega), if_neg (by omega), show K + k - K = k by omega]
      have R2 := hide (fun W (r : RowN w1.heap.size s.size (bitF s.data.toList K M k) W) => r.set (f' := bitF s.data.toList K M (k + 1)) (show K + k < s.size by omega) (fun j hj => bitF_next _ hj))
      rw [e1] at R2
      have X := xor8 (bitF s.data.toList K M k (K + k)) (mb M k)
      have CKh := hide (fun W (r : RowN w1.heap.size s.size (bitF s.data.toList K M k) W) => r.2.1 (K + k) (by omega))
      have FKh := hide (fun W (r : RowN w1.heap.size s.size (bitF s.data.toList K M k) W) => r.2.2 (K + k) (by omega))
      have MB : (mb M k).toNat = M / 2 ^ (8 * k) % 256 := by unfold mb; simp
      generalize bitF s.data.toList K M k (K + k) = x at *
      generalize mb M k = z at *
      unfold byteV at CKh R2
      generalize x ^^^ z = y at *
      clear e1
      have CK := CKh.out wr R
      have FK := FKh.out wr R
      have LG := R.1
      have x0 := byte_lt x
      have z0 := byte_lt z
      rcases (show k = 0 ∨ k = 1 ∨ k = 2 ∨ k = 3 by omega) with rfl | rfl | rfl | rfl
      · have ZE : (M : Int) % 256 = (z.toNat : Int) := by
          rw [MB]; simp only [Nat.reduceMul, Nat.reducePow]; omega
        have CK0 : wr.cell? ⟨w1.heap.size, K, none⟩ = some (.int .u8 (x.toNat : Int)) := CK
        have FK0 : wr.frozen? ⟨w1.heap.size, K, none⟩ = false := FK
        clear CK FK MB
        go_wp2
        exact ⟨⟨1, by omega, rfl, R2.out wr R, HB.setCell (by dsimp only; exact hb.size) _⟩, by simp [intOf]⟩
      · have ZE : (M : Int) / 256 % 256 = (z.toNat : Int) := by
          rw [MB]; simp only [Nat.reduceMul, Nat.reducePow]; omega
        have CK0 : wr.cell? ⟨w1.heap.size, K + 1, none⟩ = some (.int .u8 (x.toNat : Int)) := CK
        have FK0 : wr.frozen? ⟨w1.heap.size, K + 1, none⟩ = false := FK
        clear CK FK MB
        go_wp2
        exact ⟨⟨2, by omega, rfl, R2.out wr R, HB.setCell (by dsimp only; exact hb.size) _⟩, by simp [intOf]⟩
      · have ZE : (M : Int) / 65536 % 256 = (z.toNat : Int) := by
          rw [MB]; simp only [Nat.reduceMul, Nat.reducePow]; omega
        have CK0 : wr.cell? ⟨w1.heap.size, K + 2, none⟩ = some (.int .u8 (x.toNat : Int)) := CK
        have FK0 : wr.frozen? ⟨w1.heap.size, K + 2, none⟩ = false := FK
        clear CK FK MB
        go_wp2
        exact ⟨⟨3, by omega, rfl, R2.out wr R, HB.setCell (by dsimp only; exact hb.size) _⟩, by simp [intOf]⟩
      · have ZE : (M : Int) / 16777216 = (z.toNat : Int) := by
          rw [MB]; simp only [Nat.reduceMul, Nat.reducePow]; omega
        have CK0 : wr.cell? ⟨w1.heap.size, K + 3, none⟩ = some (.int .u8 (x.toNat : Int)) := CK
        have FK0 : wr.frozen? ⟨w1.heap.size, K + 3, none⟩ = false := FK
        clear CK FK MB
        go_wp2
        exact ⟨⟨4, by omega, rfl, R2.out wr R, HB.setCell (by dsimp only; exact hb.size) _⟩, by simp [intOf]⟩
    · have H : k = 4 := by omega
      subst H
      have CV := conv_rowN (cap := cap0) (l := bitL s.data.toList K M) R (lb.trans hL) (fun j hj => bitL_at _ _ _ j (by omega))
      go_wp2_with fail
      refine (C1.out _).mono ?_
      rintro e w' ⟨rfl, rfl⟩
      go_wp2_with fail
      refine (C2.out _).mono ?_
      rintro e w' ⟨rfl, rfl⟩
      go_wp2
      go_ret
      exact ⟨rfl, HB⟩
end Go.Proofs.YtiickcdkibcdpaaDoor
