/-
  The law DigestLinear returns true. Conditions: strings take at most 2^47 - 4096 bytes; the package's variables hold what its text lays.
-/
import Derived.Test.YtiickcdkibcdpaaDoorDigB
namespace Go.Proofs.YtiickcdkibcdpaaDoor
open Go.RowKit Go.Joins

theorem crcF_xor : ∀ (a b : List UInt8), b.length = a.length → ∀ r q, crcF (xorL a b) (r ^^^ q) = crcF a r ^^^ crcF b q
  | [], [], _, _, _ => rfl
  | x :: a, y :: b, h, r, q => by
    have ih := crcF_xor a b (by simpa using h) (crcN 8 (r ^^^ x.toNat)) (crcN 8 (q ^^^ y.toNat))
    show crcF (xorL a b) (crcN 8 ((r ^^^ q) ^^^ (x ^^^ y).toNat)) = crcF a (crcN 8 (r ^^^ x.toNat)) ^^^ crcF b (crcN 8 (q ^^^ y.toNat))
    rw [UInt8.toNat_xor, xor_mid, crcN_xor]
    exact ih
  | [], _ :: _, h, _, _ => by simp at h
  | _ :: _, [], h, _, _ => by simp at h
theorem crcL_lin {a b c : List UInt8} (h1 : b.length = a.length) (h2 : c.length = a.length) : crcL (xorL (xorL a b) c) = (crcL a ^^^ crcL b) ^^^ crcL c := by
  unfold crcL
  have e : (4294967295 : Nat) = (4294967295 ^^^ 4294967295) ^^^ 4294967295 := rfl
  have h3 : crcF (xorL (xorL a b) c) 4294967295 = (crcF a 4294967295 ^^^ crcF b 4294967295) ^^^ crcF c 4294967295 := by
    have k1 := crcF_xor (xorL a b) c (by rw [xorL_length h1]; exact h2) (4294967295 ^^^ 4294967295) 4294967295
    rw [← e, crcF_xor a b h1] at k1
    exact k1
  rw [h3, xor_swap, Nat.xor_assoc (crcF a 4294967295 ^^^ crcF b 4294967295)]

set_option maxRecDepth 100000 in
set_option maxHeartbeats 2000000 in
theorem linear_any (a b c : ByteArray) (za : a.size ≤ 140737488351232) (zb : b.size ≤ 140737488351232) (zc : c.size ≤ 140737488351232) (w : World) (hv : VO w) :
    Calls Tryd.prog 5 #[.string a, .string b, .string c] w (Gives (.bool true) w) := by
  have AW := hide (awake_any w hv)
  obtain ⟨n, hn⟩ : ∃ n, n = min (min a.size b.size) c.size := ⟨_, rfl⟩
  obtain ⟨a', Ea⟩ : ∃ s, s = a.extract 0 n := ⟨_, rfl⟩
  obtain ⟨b', Eb⟩ : ∃ s, s = b.extract 0 n := ⟨_, rfl⟩
  obtain ⟨c', Ec⟩ : ∃ s, s = c.extract 0 n := ⟨_, rfl⟩
  have sa : a'.size = n := by rw [Ea, ByteArray.size_extract]; omega
  have sb : b'.size = n := by rw [Eb, ByteArray.size_extract]; omega
  have sc : c'.size = n := by rw [Ec, ByteArray.size_extract]; omega
  have hm : n ≤ maxLen := by unfold maxLen; omega
  have CA := hide (fun W => crc_any a' (by rw [sa]; exact hm) W)
  have CB := hide (fun W => crc_any b' (by rw [sb]; exact hm) W)
  have CC := hide (fun W => crc_any c' (by rw [sc]; exact hm) W)
  have XA := hide (fun W => xor_any a' b' (by rw [sa]; exact hm) (by rw [sa, sb]) W)
  have l1 : b'.data.toList.length = a'.data.toList.length := by show b'.size = a'.size; omega
  have l2 : c'.data.toList.length = a'.data.toList.length := by show c'.size = a'.size; omega
  have l3 : (xorL a'.data.toList b'.data.toList).length = a'.data.toList.length := xorL_length l1
  have l4 : a'.data.toList.length = a'.size := rfl
  have XB := hide (fun W => xor_any ⟨(xorL a'.data.toList b'.data.toList).toArray⟩ c' (show (xorL a'.data.toList b'.data.toList).length ≤ maxLen by omega) (show c'.size = (xorL a'.data.toList b'.data.toList).length by omega) W)
  rw [show (ByteArray.mk (xorL a'.data.toList b'.data.toList).toArray).data.toList = xorL a'.data.toList b'.data.toList from rfl] at XB
  have l5 : (xorL (xorL a'.data.toList b'.data.toList) c'.data.toList).length = (xorL a'.data.toList b'.data.toList).length := xorL_length (by omega)
  have CX := hide (fun W => crc_any ⟨(xorL (xorL a'.data.toList b'.data.toList) c'.data.toList).toArray⟩ (show (xorL (xorL a'.data.toList b'.data.toList) c'.data.toList).length ≤ maxLen by omega) W)
  rw [show (ByteArray.mk (xorL (xorL a'.data.toList b'.data.toList) c'.data.toList).toArray).data.toList = xorL (xorL a'.data.toList b'.data.toList) c'.data.toList from rfl, crcL_lin l1 l2] at CX
  have X1 := xor_u32 (crcL_lt a'.data.toList) (crcL_lt b'.data.toList)
  have X2 := xor_u32 (xor_lt (crcL_lt a'.data.toList) (crcL_lt b'.data.toList)) (crcL_lt c'.data.toList)
  generalize crcL a'.data.toList = ra at *
  generalize crcL b'.data.toList = rb at *
  generalize crcL c'.data.toList = rc at *
  generalize xorL (xorL a'.data.toList b'.data.toList) c'.data.toList = lx at *
  generalize xorL a'.data.toList b'.data.toList = ly at *
  generalize (ra ^^^ rb) ^^^ rc = rr at *
  generalize ra ^^^ rb = rab at *
  have ha1 : n ≤ a.size := by omega
  have hb1 : n ≤ b.size := by omega
  have hc1 : n ≤ c.size := by omega
  have hN : n = a.size ∨ n = b.size ∨ n = c.size := by omega
  clear sa sb sc hm l1 l2 l3 l4 l5
  have Fa := Ea.symm
  have Fb := Eb.symm
  have Fc := Ec.symm
  clear Ea Eb Ec
  by_cases t1 : b.size < a.size
  all_goals by_cases t2 : c.size < min a.size b.size
  all_goals
    first
      | (have q : (c.size : Int) = (n : Int) := (by omega))
      | (have q : (b.size : Int) = (n : Int) := (by omega))
      | (have q : (a.size : Int) = (n : Int) := (by omega))
    have i1 : (n : Int) ≤ (a.size : Int) := by omega
    have i2 : (n : Int) ≤ (b.size : Int) := by omega
    have i3 : (n : Int) ≤ (c.size : Int) := by omega
    have t3 : (b.size : Int) < (a.size : Int) ∨ ¬ (b.size : Int) < (a.size : Int) := by omega
    clear hn hN
    go_enter Tryd.func5, Tryd.ntmps5
    go_wp2_with fail
    refine AW.out.mono ?_
    rintro e w1 ⟨rfl, hb⟩
    go_wp2_with fail
    refine (CA.out _).mono ?_
    rintro e w' ⟨rfl, rfl⟩
    go_wp2_with fail
    refine (CB.out _).mono ?_
    rintro e w' ⟨rfl, rfl⟩
    go_wp2_with fail
    refine (CC.out _).mono ?_
    rintro e w' ⟨rfl, rfl⟩
    go_wp2_with fail
    refine (XA.out _).mono ?_
    rintro e w2 ⟨rfl, hb2⟩
    go_wp2_with fail
    refine (XB.out _).mono ?_
    rintro e w3 ⟨rfl, hb3⟩
    go_wp2_with fail
    refine (CX.out _).mono ?_
    rintro e w' ⟨rfl, rfl⟩
    go_wp2
    go_ret
    exact ⟨rfl, chain (chain hb hb2) hb3⟩
end Go.Proofs.YtiickcdkibcdpaaDoor
