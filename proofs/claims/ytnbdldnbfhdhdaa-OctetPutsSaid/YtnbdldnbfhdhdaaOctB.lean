/-
  Basics of the walks over octet: what a call gives, memory kept over calls; contracts of Len64, size, Cut. Conditions: a word is a word of 64 bits; a string is no longer than an int; an int is an int of 64 bits (every value of the types is such).
-/
import Derived.Test.YtnbdldnbfhdhdaaProg
import Derived.Test.YtnbdldnbfhdhdaaOctM
import Derived.WalkKit
import Derived.WalkSpells
import Derived.WalkLawsBesides
import Derived.Laws.Externs
import Derived.RegionTactic
import Derived.ChangeAlike
import Derived.Lib.Strings
import Derived.Lib.Slices
import Derived.Lib.Small
import Derived.Lib.Walk
import Derived.Lib.BitFns
import Derived.Lib.SmallJoins
import Derived.ProofKit
import Derived.BigQuiet
import Derived.Deep.QuietTactic
import Derived.Laws.CopyOwn
import Derived.Laws.IdiomStrings
namespace Go.Proofs.Ytnbdldnbfhdhdaa
open Go.RowKit Go.Joins

abbrev A (a : Nat) : Value := .agg #[.int .u64 (hi a : Nat), .int .u64 (lo a : Nat)]
/-- a call with this one result, nothing old changed -/
def Gives (v : Value) (w : World) (e : Ending) (w' : World) : Prop := e = .returned v ∧ Below w.heap.size w w'
/-- a call with this one result, nothing touched at all -/
def Same (v : Value) (w : World) (e : Ending) (w' : World) : Prop := e = .returned v ∧ w = w'
theorem hide {p : Prop} (h : p) : Hid p := h
theorem bool_eq {a b : Bool} (h : a = b) : Value.bool a = .bool b := by rw [h]
theorem tup2 {x x' y y' : Value} (h : x = x') (k : y = y') : Value.tuple #[x, y] = .tuple #[x', y'] := by rw [h, k]
theorem tup3 {x x' y y' z z' : Value} (h : x = x') (k : y = y') (l : z = z') : Value.tuple #[x, y, z] = .tuple #[x', y', z'] := by rw [h, k, l]
theorem bcell {W w1 : World} (hb : Below W.heap.size W w1) : (∀ b o, b < W.heap.size → w1.cell? ⟨b, o, none⟩ = W.cell? ⟨b, o, none⟩) ∧ (∀ b o, b < W.heap.size → w1.frozen? ⟨b, o, none⟩ = W.frozen? ⟨b, o, none⟩) :=
  ⟨fun b o h => hb.cell (p := ⟨b, o, none⟩) h, fun b o h => hb.frozen (p := ⟨b, o, none⟩) h⟩
theorem keep_cell {W w2 : World} {p : Go.Addr} {v : Value} (hb : Below W.heap.size W w2) (h : W.cell? p = some v) : w2.cell? p = some v := by
  rw [hb.cell (World.block_lt_of_cell? W p h), h]
theorem keep_free {W w2 : World} {p : Go.Addr} (hb : Below W.heap.size W w2) (hl : p.block < W.heap.size) (h : W.frozen? p = false) : w2.frozen? p = false := by
  rw [hb.frozen hl, h]
theorem below_alloc (W : World) (o : Obj) : Below W.heap.size W (W.alloc o) := (Below.refl _ _).alloc (Nat.le_refl _) _
theorem below_drew (W : World) : Below W.heap.size W W.drew := (Below.refl _ _).drew
theorem below_drewN (W : World) (n : Nat) : Below W.heap.size W (W.drewN n) := ⟨rfl, rfl, rfl, Nat.le_refl _, fun _ _ => rfl⟩
theorem chain {w v v' : World} (h : Below w.heap.size w v) (k : Below v.heap.size v v') : Below w.heap.size w v' := h.trans (k.mono h.size)
/-- a text of bytes -/
abbrev St (l : List UInt8) : Value := .string ⟨l.toArray⟩
theorem st_eq {a b : List UInt8} (h : a = b) : St a = St b := by rw [h]
theorem infoB : (Try.prog.info? 5).map (fun i => (i.zero, i.size, i.bytes)) = some (some (.int .u8 0), 1, 1) := by kernel_rfl
def byteV (b : UInt8) : Value := .int .u8 (b.toNat : Int)
theorem conv_own {w : World} {base g n cap : Nat} {l : List UInt8} (h : w.ownsRow base 5 1 (.slice (some ⟨g, 0, none⟩) n cap) n (l.map byteV)) :
    (convert 53 9 (.slice (some ⟨g, 0, none⟩) n cap)).run Try.prog w = .ok (St l) w := by
  have hl : n = l.length := by have := h.1; simp at this; omega
  subst hl
  refine run_convert_bytes_back (P := Try.prog) w 53 9 5 ⟨g, 0, none⟩ cap l Try.underlying53 Try.underlying5 Try.underlying9 (fun j hj => ?_)
  have := h.cellAt j (by omega)
  have ha : (⟨g, 0, none⟩ : Go.Addr).add j = ⟨g, j, none⟩ := by cases j <;> simp [Addr.add]
  rw [ha, this, List.getElem?_map, List.getElem?_eq_getElem hj]
  rfl
/-- an int of 64 bits -/
def I64 (a : Int) : Prop := -9223372036854775808 ≤ a ∧ a ≤ 9223372036854775807

theorem tab_at (i : Int) (h0 : 0 ≤ i) (h1 : i ≤ 255) (W : World) : (Instr.index 9 (.string Lib.len8tab) (.int .u8 i)).run Try.prog W = .ok (.int .u8 (Lib.len8 i)) W :=
  Lib.run_index_len8tab W _ _ i Try.underlying9 h0 h1

theorem len_close {x i K : Int} (k : Nat) (hK : K = (k : Int)) (hk : 2 ^ k ≤ x.toNat) (hx : x.toNat < 2 ^ 64) (hi' : i.toNat = x.toNat / 2 ^ k) (h0 : 0 ≤ i) (h1 : i ≤ 255) (h2 : k ≤ 64) :
    wrap64 (K + wrap64 (Lib.len8 i)) = (Lib.bitLen x.toNat : Int) := by
  have e := Lib.bitLen_shift k x.toNat hk hx
  have l := Lib.bitLen_le8' i h0 h1
  rw [Lib.len8_of i h0 h1, hK, e, ← hi']
  rw [IntWalk.wrap64_in (Lib.bitLen i.toNat : Int) ⟨by omega, by omega⟩, IntWalk.wrap64_in _ ⟨by omega, by omega⟩]
  omega
theorem len_close0 {x : Int} (h0 : 0 ≤ x) (h1 : x ≤ 255) : wrap64 (wrap64 (Lib.len8 x)) = (Lib.bitLen x.toNat : Int) := by
  have l := Lib.bitLen_le8' x h0 h1
  rw [Lib.len8_of x h0 h1]
  rw [IntWalk.wrap64_in (Lib.bitLen x.toNat : Int) ⟨by omega, by omega⟩, IntWalk.wrap64_in _ ⟨by omega, by omega⟩]

set_option maxHeartbeats 4000000 in
set_option maxRecDepth 100000 in
theorem len64_any (x : Int) (w : World) (h0 : 0 ≤ x) (h1 : x ≤ 18446744073709551615) :
    Calls Try.prog 51 #[.int .u64 x] w fun e w' => e = .returned (.int .i64 (Lib.bitLen x.toNat)) ∧ w = w' := by
  have f0 := fun W (h : x < 256) => tab_at x h0 (by omega) W
  have f1 := fun W (h : x < 65536) => tab_at (x / 256) (by omega) (by omega) W
  have f2 := fun W (h : x / 65536 < 256) => tab_at (x / 65536) (by omega) (by omega) W
  have f3 := fun W (h : x < 4294967296) => tab_at (x / 65536 / 256) (by omega) (by omega) W
  have f4 := fun W (h : x / 4294967296 < 256) => tab_at (x / 4294967296) (by omega) (by omega) W
  have f5 := fun W (h : x / 4294967296 < 65536) => tab_at (x / 4294967296 / 256) (by omega) (by omega) W
  have f6 := fun W (h : x / 4294967296 / 65536 < 256) => tab_at (x / 4294967296 / 65536) (by omega) (by omega) W
  have f7 := tab_at (x / 4294967296 / 65536 / 256) (by omega) (by omega)
  go_enter Try.func51, Try.ntmps51
  go_wp2
  all_goals (go_ret; refine ⟨congrArg Ending.returned (congrArg (Value.int IntKind.i64) ?_), rfl⟩)
  all_goals clear f0 f1 f2 f3 f4 f5 f6 f7
  · exact len_close 56 rfl (by omega) (by omega) (by omega) (by omega) (by omega) (by omega)
  · exact len_close 48 rfl (by omega) (by omega) (by omega) (by omega) (by omega) (by omega)
  · exact len_close 40 rfl (by omega) (by omega) (by omega) (by omega) (by omega) (by omega)
  · exact len_close 32 rfl (by omega) (by omega) (by omega) (by omega) (by omega) (by omega)
  · exact len_close 24 rfl (by omega) (by omega) (by omega) (by omega) (by omega) (by omega)
  · exact len_close 16 rfl (by omega) (by omega) (by omega) (by omega) (by omega) (by omega)
  · exact len_close 8 rfl (by omega) (by omega) (by omega) (by omega) (by omega) (by omega)
  · exact len_close0 (by omega) (by omega)



theorem bitLen16 : Lib.bitLen (65535 : Int).toNat = 16 := by decide +kernel
set_option maxRecDepth 100000 in
theorem size16_any (w : World) : Calls Try.prog 42 #[] w (Same (.int .i64 2) w) := by
  have L := hide (len64_any 65535 w (by omega) (by omega))
  rw [bitLen16] at L
  go_enter Try.func42, Try.ntmps42
  go_wp2_with fail
  refine L.out.mono ?_
  rintro e w' ⟨rfl, rfl⟩
  go_wp2
  go_ret
  exact ⟨rfl, rfl⟩

theorem bitLen32 : Lib.bitLen (4294967295 : Int).toNat = 32 := by decide +kernel
set_option maxRecDepth 100000 in
theorem size32_any (w : World) : Calls Try.prog 43 #[] w (Same (.int .i64 4) w) := by
  have L := hide (len64_any 4294967295 w (by omega) (by omega))
  rw [bitLen32] at L
  go_enter Try.func43, Try.ntmps43
  go_wp2_with fail
  refine L.out.mono ?_
  rintro e w' ⟨rfl, rfl⟩
  go_wp2
  go_ret
  exact ⟨rfl, rfl⟩

theorem bitLen64 : Lib.bitLen (18446744073709551615 : Int).toNat = 64 := by decide +kernel
set_option maxRecDepth 100000 in
theorem size64_any (w : World) : Calls Try.prog 44 #[] w (Same (.int .i64 8) w) := by
  have L := hide (len64_any 18446744073709551615 w (by omega) (by omega))
  rw [bitLen64] at L
  go_enter Try.func44, Try.ntmps44
  go_wp2_with fail
  refine L.out.mono ?_
  rintro e w' ⟨rfl, rfl⟩
  go_wp2
  go_ret
  exact ⟨rfl, rfl⟩

set_option maxRecDepth 100000 in
theorem cut_any (s : ByteArray) (hs : s.size ≤ maxLen) {a n : Int} (ha : I64 a) (hn : I64 n) (w : World) :
    Calls Try.prog 29 #[.string s, .int .i64 a, .int .i64 n] w (Same (.tuple #[.string (cutV s a n), .bool (cutO s a n)]) w) := by
  unfold maxLen at hs
  obtain ⟨ha1, ha2⟩ := ha
  obtain ⟨hn1, hn2⟩ := hn
  by_cases h : 0 ≤ a ∧ 0 ≤ n ∧ n ≤ (s.size : Int) - a
  · obtain ⟨h1, h2, h3⟩ := h
    have K := hide (show cutO s a n = true by unfold cutO; simpa using ⟨h1, h2, h3⟩)
    have V := hide (cut_yes K.out)
    have E := hide (show s.extract a.toNat (a + n).toNat = sub s a.toNat n.toNat by unfold sub; rw [show (a + n).toNat = a.toNat + n.toNat by omega])
    have h4 : ¬ a < 0 := by omega
    have h5 : ¬ n < 0 := by omega
    have h6 : ¬ (s.size : Int) - a < n := by omega
    have h7 : a ≤ (s.size : Int) := by omega
    have h8 : a + n ≤ (s.size : Int) := by omega
    go_enter Try.func29, Try.ntmps29
    go_wp2
    go_ret2
    refine ⟨congrArg Ending.returned (tup2 ?_ (bool_eq K.out.symm)), rfl⟩
    rw [V.out, ← E.out]; rfl
  · have K := hide (show cutO s a n = false by unfold cutO; simpa using h)
    have V := hide (cut_no K.out)
    by_cases h1 : a < 0
    · clear h
      go_enter Try.func29, Try.ntmps29
      go_wp2
      go_ret2
      exact ⟨congrArg Ending.returned (tup2 (by rw [V.out]; rfl) (bool_eq K.out.symm)), rfl⟩
    by_cases h2 : n < 0
    · clear h
      go_enter Try.func29, Try.ntmps29
      go_wp2
      go_ret2
      exact ⟨congrArg Ending.returned (tup2 (by rw [V.out]; rfl) (bool_eq K.out.symm)), rfl⟩
    · have h3 : (s.size : Int) - a < n := by omega
      clear h
      go_enter Try.func29, Try.ntmps29
      go_wp2
      go_ret2
      exact ⟨congrArg Ending.returned (tup2 (by rw [V.out]; rfl) (bool_eq K.out.symm)), rfl⟩
end Go.Proofs.Ytnbdldnbfhdhdaa
