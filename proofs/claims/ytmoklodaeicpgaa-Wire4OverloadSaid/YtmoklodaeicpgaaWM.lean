/-
  Messages of DHCPv4 as bytes: mathematics of wire4: a head's fields, how they are written and read; what Encode and Decode answer. No program is named here. No condition beyond those in each theorem's own statement.
-/
import Derived.Test.YtmoklodaeicpgaaOctM
import Derived.Test.YtmoklodaeicpgaaOpN
import Derived.Test.YtmoklodaeicpgaaOpD
import Derived.Test.YtmoklodaeicpgaaOpF
namespace Go.Proofs.Ytmoklodaeicpgaa
open Go

/-- a field of a head -/
inductive Fv where
  | u8 (x : UInt8)
  | u16 (x : UInt16)
  | u32 (x : UInt32)
  | st (x : ByteArray)
def Fv.bytes : Fv → List UInt8
  | .u8 x => [x]
  | .u16 x => beL 2 x.toNat
  | .u32 x => beL 4 x.toNat
  | .st x => lb x
def Fv.val : Fv → Value
  | .u8 x => .int .u8 (x.toNat : Int)
  | .u16 x => .int .u16 (x.toNat : Int)
  | .u32 x => .int .u32 (x.toNat : Int)
  | .st x => .string x
def Fv.len : Fv → Nat
  | .u8 _ => 1
  | .u16 _ => 2
  | .u32 _ => 4
  | .st x => x.size
theorem Fv.bytes_len (f : Fv) : f.bytes.length = f.len := by
  cases f with
  | u8 x => rfl
  | u16 x => exact beL_length 2 _
  | u32 x => exact beL_length 4 _
  | st x => exact lb_len x
/-- the field of this kind that stands at a place -/
def Fv.get : Fv → ByteArray → Nat → Fv
  | .u8 _, s, a => .u8 ((lb s).getD a 0)
  | .u16 _, s, a => .u16 (UInt16.ofNat (getV 2 s (a : Int)))
  | .u32 _, s, a => .u32 (UInt32.ofNat (getV 4 s (a : Int)))
  | .st x, s, a => .st (sub s a x.size)
theorem Fv.get_len {f : Fv} {s : ByteArray} {a : Nat} (h : a + f.len ≤ s.size) : (f.get s a).len = f.len := by
  cases f with
  | u8 x => rfl
  | u16 x => rfl
  | u32 x => rfl
  | st x => exact sub_size h
theorem u16_of (n : Nat) (h : n < 65536) : (UInt16.ofNat n).toNat = n := by rw [UInt16.toNat_ofNat']; exact Nat.mod_eq_of_lt h
theorem u32_of (n : Nat) (h : n < 4294967296) : (UInt32.ofNat n).toNat = n := by rw [UInt32.toNat_ofNat']; exact Nat.mod_eq_of_lt h
/-- what stands at a place in bytes that hold it there -/
theorem sub_at {s : ByteArray} {p q r : List UInt8} (h : lb s = p ++ (q ++ r)) : sub s p.length q.length = bs q := by
  have : lb (sub s p.length q.length) = q := by
    show (sub s p.length q.length).data.toList = q
    rw [sub_list]
    have h : s.data.toList = p ++ (q ++ r) := h
    rw [h, List.drop_left, List.take_left]
  rw [← bs_lb (sub s p.length q.length), this]
theorem cutV_at {s : ByteArray} {p q r : List UInt8} (h : lb s = p ++ (q ++ r)) : cutV s (p.length : Int) (q.length : Int) = bs q := by
  have hs : s.size = p.length + (q.length + r.length) := by rw [← lb_len, h]; simp
  rw [cut_yes (by unfold cutO; rw [decide_eq_true_eq]; omega)]
  exact sub_at h
theorem Fv.get_at {f g : Fv} {s : ByteArray} {p r : List UInt8} (h : lb s = p ++ (f.bytes ++ r)) (hk : match f, g with | .u8 _, .u8 _ => True | .u16 _, .u16 _ => True | .u32 _, .u32 _ => True | .st x, .st y => x.size = y.size | _, _ => False) : g.get s p.length = f := by
  cases f with
  | u8 x =>
    cases g with
    | u8 y =>
      show Fv.u8 _ = _
      rw [h, List.getD_eq_getElem?_getD, List.getElem?_append_right (Nat.le_refl _), Nat.sub_self]
      rfl
    | _ => cases hk
  | u16 x =>
    cases g with
    | u16 y =>
      show Fv.u16 _ = _
      have e := cutV_at h
      rw [show ((Fv.u16 x).bytes.length : Int) = ((2 : Nat) : Int) by rw [Fv.bytes_len]; rfl] at e
      unfold getV
      rw [e, show (bs (Fv.u16 x).bytes).data.toList = beL 2 x.toNat from lb_bs _, beV_beL (by have := x.toNat_lt; omega)]
      simp
    | _ => cases hk
  | u32 x =>
    cases g with
    | u32 y =>
      show Fv.u32 _ = _
      have e := cutV_at h
      rw [show ((Fv.u32 x).bytes.length : Int) = ((4 : Nat) : Int) by rw [Fv.bytes_len]; rfl] at e
      unfold getV
      rw [e, show (bs (Fv.u32 x).bytes).data.toList = beL 4 x.toNat from lb_bs _, beV_beL (by have := x.toNat_lt; omega)]
      simp
    | _ => cases hk
  | st x =>
    cases g with
    | st y =>
      show Fv.st _ = _
      have e := sub_at h
      have hx : (Fv.st x).bytes.length = y.size := by rw [Fv.bytes_len]; exact hk
      rw [hx] at e
      rw [e]
      show Fv.st (bs (lb x)) = _
      rw [bs_lb]
    | _ => cases hk

/-- a head -/
structure Hd where
  op : UInt8
  ht : UInt8
  hl : UInt8
  ho : UInt8
  xid : UInt32
  secs : UInt16
  flags : UInt16
  ci : UInt32
  yi : UInt32
  si : UInt32
  gi : UInt32
  hard : ByteArray
  name : ByteArray
  file : ByteArray
def Hd.fs (m : Hd) : List Fv := [.u8 m.op, .u8 m.ht, .u8 m.hl, .u8 m.ho, .u32 m.xid, .u16 m.secs, .u16 m.flags, .u32 m.ci, .u32 m.yi, .u32 m.si, .u32 m.gi, .st m.hard, .st m.name, .st m.file]
theorem Hd.fs_len (m : Hd) : m.fs.length = 14 := rfl
/-- a message: its head, its options -/
abbrev Ms := Hd × List Opt
def bytesF (l : List Fv) : List UInt8 := l.flatMap Fv.bytes
theorem bytesF_take {l : List Fv} {k : Nat} {f : Fv} (h : l[k]? = some f) : bytesF (l.take (k + 1)) = bytesF (l.take k) ++ f.bytes := by
  unfold bytesF
  rw [List.take_add_one, h, List.flatMap_append]
  simp
def nul (n : Nat) : ByteArray := bs (List.replicate n 0)
theorem nul_size (n : Nat) : (nul n).size = n := by unfold nul; rw [bs_size, List.length_replicate]
def blankH : Hd := ⟨0, 0, 0, 0, 0, 0, 0, 0, 0, 0, 0, nul 16, nul 64, nul 128⟩
def cookieL : List UInt8 := [99, 130, 83, 99]
def soundH (m : Hd) : Bool := decide (m.hard.size = 16 ∧ m.name.size = 64 ∧ m.file.size = 128)
def soundM (m : Ms) : Bool := soundH m.1 && decide (emitE m.2 = 0) && !hasC 52 m.2
def encL (m : Ms) : List UInt8 := bytesF m.1.fs ++ (cookieL ++ emitS m.2)
def encE (m : Ms) : Nat := if soundM m = true then (if 65507 < (encL m).length then 6 else 0) else 141
def encS (m : Ms) : List UInt8 := if encE m = 0 then encL m else []
theorem bytesF_size {m : Hd} (h : soundH m = true) : (bytesF m.fs).length = 236 := by
  unfold soundH at h
  rw [decide_eq_true_eq] at h
  obtain ⟨h1, h2, h3⟩ := h
  unfold bytesF Hd.fs
  simp only [List.flatMap_cons, List.flatMap_nil, List.length_append, Fv.bytes_len, Fv.len, h1, h2, h3, List.length_nil]
theorem encE_zero {m : Ms} (h : encE m = 0) : soundH m.1 = true ∧ emitE m.2 = 0 ∧ hasC 52 m.2 = false ∧ (encL m).length ≤ 65507 := by
  unfold encE at h
  split at h
  · rename_i hs
    split at h
    · cases h
    · rename_i hl
      unfold soundM at hs
      simp only [Bool.and_eq_true, Bool.not_eq_true', decide_eq_true_eq] at hs
      exact ⟨hs.1.1, hs.1.2, hs.2, by omega⟩
  · cases h

/-! ### what is read -/
/-- the places of the fields -/
def offs : List Nat := [0, 1, 2, 3, 4, 8, 10, 12, 16, 20, 24, 28, 44, 108, 236]
def getH (s : ByteArray) : Hd :=
  ⟨(lb s).getD 0 0, (lb s).getD 1 0, (lb s).getD 2 0, (lb s).getD 3 0, UInt32.ofNat (getV 4 s 4), UInt16.ofNat (getV 2 s 8), UInt16.ofNat (getV 2 s 10), UInt32.ofNat (getV 4 s 12), UInt32.ofNat (getV 4 s 16), UInt32.ofNat (getV 4 s 20), UInt32.ofNat (getV 4 s 24), sub s 28 16, sub s 44 64, sub s 108 128⟩
/-- the k-th field: of which kind it was, where it stands, what is read there -/
theorem getH_at (s : ByteArray) (k : Nat) (hk : k < 14) : ∃ f a, blankH.fs[k]? = some f ∧ offs[k]? = some a ∧ (getH s).fs[k]? = some (f.get s a) ∧ offs[k + 1]? = some (a + f.len) ∧ a + f.len ≤ 236 := by
  have n16 : (nul 16).size = 16 := nul_size 16
  have n64 : (nul 64).size = 64 := nul_size 64
  have n128 : (nul 128).size = 128 := nul_size 128
  rcases k with _ | _ | _ | _ | _ | _ | _ | _ | _ | _ | _ | _ | _ | _ | k
  all_goals first
    | exact ⟨_, _, rfl, rfl, rfl, rfl, by decide⟩
    | exact ⟨_, _, rfl, rfl, by show some (Fv.st (sub s _ _)) = some (Fv.st (sub s _ _)); rw [n16], by show _ = some (_ + (nul 16).size); rw [n16]; rfl, by show _ + (nul 16).size ≤ _; rw [n16]; decide⟩
    | exact ⟨_, _, rfl, rfl, by show some (Fv.st (sub s _ _)) = some (Fv.st (sub s _ _)); rw [n64], by show _ = some (_ + (nul 64).size); rw [n64]; rfl, by show _ + (nul 64).size ≤ _; rw [n64]; decide⟩
    | exact ⟨_, _, rfl, rfl, by show some (Fv.st (sub s _ _)) = some (Fv.st (sub s _ _)); rw [n128], by show _ = some (_ + (nul 128).size); rw [n128]; rfl, by show _ + (nul 128).size ≤ _; rw [n128]; decide⟩
    | omega
/-- which fields an overload tells of: none, an error -/
def ovN (l : List Opt) : Option Nat := if hasC 52 l = false then some 0 else if findD l 52 = ⟨#[1]⟩ then some 1 else if findD l 52 = ⟨#[2]⟩ then some 2 else if findD l 52 = ⟨#[3]⟩ then some 3 else none
def areasL (s : ByteArray) (h : Hd) (n : Nat) : List (List UInt8) := (lb s).drop 240 :: ((if n = 1 ∨ n = 3 then [lb h.file] else []) ++ (if n = 2 ∨ n = 3 then [lb h.name] else []))
def headN (h : Hd) (n : Nat) : Hd := { h with file := if n = 1 ∨ n = 3 then nul 128 else h.file, name := if n = 2 ∨ n = 3 then nul 64 else h.name }
def zeroH : Hd := ⟨0, 0, 0, 0, 0, 0, 0, 0, 0, 0, 0, ⟨#[]⟩, ⟨#[]⟩, ⟨#[]⟩⟩
/-- what Decode answers -/
def decR (s : ByteArray) : Nat × Ms :=
  if 65507 < s.size then (6, zeroH, []) else
  if s.size < 240 then (3, zeroH, []) else
  if sub s 236 4 ≠ bs cookieL then (140, zeroH, []) else
  if parseE [(lb s).drop 240] ≠ 0 then (parseE [(lb s).drop 240], zeroH, []) else
  match ovN (parseO [(lb s).drop 240]) with
  | none => (130, zeroH, [])
  | some n => if parseE (areasL s (getH s) n) ≠ 0 then (parseE (areasL s (getH s) n), zeroH, []) else
    (0, headN (getH s) n, kept 52 (parseO (areasL s (getH s) n)))
end Go.Proofs.Ytmoklodaeicpgaa
