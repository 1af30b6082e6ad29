/-
  Basics of the walks over opt4: what a call gives, memory kept over calls; pieces of a string; the contract of octet.Cut. Conditions: a string is no longer than an int; an int is an int of 64 bits (every value of the types is such).
-/
import Derived.Test.YtmoklodaeicpgaaProg
import Derived.Test.YtmoklodaeicpgaaOpM
import Derived.WalkKit
import Derived.WalkSpells
import Derived.WalkLawsBesides
import Derived.Laws.Externs
import Derived.RegionTactic
import Derived.ChangeAlike
import Derived.Lib.Strings
import Derived.Lib.Slices
import Derived.Lib.Small
import Derived.Lib.Walk
import Derived.Lib.BitFns
import Derived.Lib.SmallJoins
import Derived.ProofKit
import Derived.BigQuiet
import Derived.Deep.QuietTactic
import Derived.Laws.CopyOwn
import Derived.Laws.IdiomStrings
namespace Go.Proofs.Ytmoklodaeicpgaa
open Go.RowKit Go.Joins

/-- n bytes from a place on -/
def sub (s : ByteArray) (o n : Nat) : ByteArray := s.extract o (o + n)
/-- whether there are n bytes from a place on -/
def cutO (s : ByteArray) (a n : Int) : Bool := decide (0 ≤ a ∧ 0 ≤ n ∧ n ≤ (s.size : Int) - a)
def cutV (s : ByteArray) (a n : Int) : ByteArray := if cutO s a n = true then sub s a.toNat n.toNat else ⟨#[]⟩
theorem cut_yes {s : ByteArray} {a n : Int} (h : cutO s a n = true) : cutV s a n = sub s a.toNat n.toNat := by unfold cutV; rw [if_pos h]
theorem cut_no {s : ByteArray} {a n : Int} (h : cutO s a n = false) : cutV s a n = ⟨#[]⟩ := by unfold cutV; rw [if_neg (by rw [h]; simp)]
theorem sub_size {s : ByteArray} {o n : Nat} (h : o + n ≤ s.size) : (sub s o n).size = n := by
  unfold sub; rw [ByteArray.size_extract]; omega
theorem sub_list (s : ByteArray) (o n : Nat) : (sub s o n).data.toList = (s.data.toList.drop o).take n := by
  unfold sub
  rw [ByteArray.data_extract, Array.toList_extract, List.extract_eq_take_drop]
  congr 1; omega
/-- a call with this one result, nothing old changed -/
def Gives (v : Value) (w : World) (e : Ending) (w' : World) : Prop := e = .returned v ∧ Below w.heap.size w w'
/-- a call with this one result, nothing touched at all -/
def Same (v : Value) (w : World) (e : Ending) (w' : World) : Prop := e = .returned v ∧ w = w'
theorem hide {p : Prop} (h : p) : Hid p := h
theorem bool_eq {a b : Bool} (h : a = b) : Value.bool a = .bool b := by rw [h]
theorem tup2 {x x' y y' : Value} (h : x = x') (k : y = y') : Value.tuple #[x, y] = .tuple #[x', y'] := by rw [h, k]
theorem tup3 {x x' y y' z z' : Value} (h : x = x') (k : y = y') (l : z = z') : Value.tuple #[x, y, z] = .tuple #[x', y', z'] := by rw [h, k, l]
theorem bcell {W w1 : World} (hb : Below W.heap.size W w1) : (∀ b o, b < W.heap.size → w1.cell? ⟨b, o, none⟩ = W.cell? ⟨b, o, none⟩) ∧ (∀ b o, b < W.heap.size → w1.frozen? ⟨b, o, none⟩ = W.frozen? ⟨b, o, none⟩) :=
  ⟨fun b o h => hb.cell (p := ⟨b, o, none⟩) h, fun b o h => hb.frozen (p := ⟨b, o, none⟩) h⟩
theorem keep_cell {W w2 : World} {p : Go.Addr} {v : Value} (hb : Below W.heap.size W w2) (h : W.cell? p = some v) : w2.cell? p = some v := by
  rw [hb.cell (World.block_lt_of_cell? W p h), h]
theorem keep_free {W w2 : World} {p : Go.Addr} (hb : Below W.heap.size W w2) (hl : p.block < W.heap.size) (h : W.frozen? p = false) : w2.frozen? p = false := by
  rw [hb.frozen hl, h]
theorem below_alloc (W : World) (o : Obj) : Below W.heap.size W (W.alloc o) := (Below.refl _ _).alloc (Nat.le_refl _) _
theorem below_drew (W : World) : Below W.heap.size W W.drew := (Below.refl _ _).drew
theorem below_drewN (W : World) (n : Nat) : Below W.heap.size W (W.drewN n) := ⟨rfl, rfl, rfl, Nat.le_refl _, fun _ _ => rfl⟩
theorem chain {w v v' : World} (h : Below w.heap.size w v) (k : Below v.heap.size v v') : Below w.heap.size w v' := h.trans (k.mono h.size)
/-- a text of bytes -/
abbrev St (l : List UInt8) : Value := .string ⟨l.toArray⟩
theorem st_eq {a b : List UInt8} (h : a = b) : St a = St b := by rw [h]
theorem infoB : (Try.prog.info? 5).map (fun i => (i.zero, i.size, i.bytes)) = some (some (.int .u8 0), 1, 1) := by kernel_rfl
def byteV (b : UInt8) : Value := .int .u8 (b.toNat : Int)
theorem conv_own {w : World} {base g n cap : Nat} {l : List UInt8} (h : w.ownsRow base 5 1 (.slice (some ⟨g, 0, none⟩) n cap) n (l.map byteV)) :
    (convert 39 9 (.slice (some ⟨g, 0, none⟩) n cap)).run Try.prog w = .ok (St l) w := by
  have hl : n = l.length := by have := h.1; simp at this; omega
  subst hl
  refine run_convert_bytes_back (P := Try.prog) w 39 9 5 ⟨g, 0, none⟩ cap l Try.underlying39 Try.underlying5 Try.underlying9 (fun j hj => ?_)
  have := h.cellAt j (by omega)
  have ha : (⟨g, 0, none⟩ : Go.Addr).add j = ⟨g, j, none⟩ := by cases j <;> simp [Addr.add]
  rw [ha, this, List.getElem?_map, List.getElem?_eq_getElem hj]
  rfl
/-- an int of 64 bits -/
def I64 (a : Int) : Prop := -9223372036854775808 ≤ a ∧ a ≤ 9223372036854775807
set_option maxRecDepth 100000 in
theorem cut_any (s : ByteArray) (hs : s.size ≤ maxLen) {a n : Int} (ha : I64 a) (hn : I64 n) (w : World) :
    Calls Try.prog 68 #[.string s, .int .i64 a, .int .i64 n] w (Same (.tuple #[.string (cutV s a n), .bool (cutO s a n)]) w) := by
  unfold maxLen at hs
  obtain ⟨ha1, ha2⟩ := ha
  obtain ⟨hn1, hn2⟩ := hn
  by_cases h : 0 ≤ a ∧ 0 ≤ n ∧ n ≤ (s.size : Int) - a
  · obtain ⟨h1, h2, h3⟩ := h
    have K := hide (show cutO s a n = true by unfold cutO; simpa using ⟨h1, h2, h3⟩)
    have V := hide (cut_yes K.out)
    have E := hide (show s.extract a.toNat (a + n).toNat = sub s a.toNat n.toNat by unfold sub; rw [show (a + n).toNat = a.toNat + n.toNat by omega])
    have h4 : ¬ a < 0 := by omega
    have h5 : ¬ n < 0 := by omega
    have h6 : ¬ (s.size : Int) - a < n := by omega
    have h7 : a ≤ (s.size : Int) := by omega
    have h8 : a + n ≤ (s.size : Int) := by omega
    go_enter Try.func68, Try.ntmps68
    go_wp2
    go_ret2
    refine ⟨congrArg Ending.returned (tup2 ?_ (bool_eq K.out.symm)), rfl⟩
    rw [V.out, ← E.out]; rfl
  · have K := hide (show cutO s a n = false by unfold cutO; simpa using h)
    have V := hide (cut_no K.out)
    by_cases h1 : a < 0
    · clear h
      go_enter Try.func68, Try.ntmps68
      go_wp2
      go_ret2
      exact ⟨congrArg Ending.returned (tup2 (by rw [V.out]; rfl) (bool_eq K.out.symm)), rfl⟩
    by_cases h2 : n < 0
    · clear h
      go_enter Try.func68, Try.ntmps68
      go_wp2
      go_ret2
      exact ⟨congrArg Ending.returned (tup2 (by rw [V.out]; rfl) (bool_eq K.out.symm)), rfl⟩
    · have h3 : (s.size : Int) - a < n := by omega
      clear h
      go_enter Try.func68, Try.ntmps68
      go_wp2
      go_ret2
      exact ⟨congrArg Ending.returned (tup2 (by rw [V.out]; rfl) (bool_eq K.out.symm)), rfl⟩
end Go.Proofs.Ytmoklodaeicpgaa
