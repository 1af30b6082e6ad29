/-
  What can be leased, leases, changes: plain definitions over numbers, lists and bytes; the values that hold them. No program is walked here. No condition beyond those in each theorem's own statement.
-/
import Derived.Test.YtpldkgollhbolaaLBase
namespace Go.Proofs.Ytpldkgollhbolaa
open Go.RowKit Go.Joins

/-- a lease: kind, the prefix's address and bits, state, client, iaid, until -/
structure Ls where
  kind : Int
  p : Nat
  n : Int
  st : Int
  cl : ByteArray
  ia : Nat
  un : Int
/-- a change -/
structure Ch where
  gone : Bool
  l : Ls
structure Ls.ok (x : Ls) : Prop where
  kind : I64 x.kind
  p : Fits x.p
  n : I64 x.n
  st : I64 x.st
  cl : x.cl.size ≤ maxLen
  ia : x.ia < 4294967296
  un : I64 x.un
def wdL (x : Ls) : List Value := [.int .i64 x.kind, .int .u64 (hi x.p : Nat), .int .u64 (lo x.p : Nat), .int .i64 x.n, .int .i64 x.st, .string x.cl, .int .u32 (x.ia : Int), .int .i64 x.un]
def wdC (c : Ch) : List Value := .bool c.gone :: wdL c.l
abbrev Lv (x : Ls) : Value := .agg #[.int .i64 x.kind, .int .u64 (hi x.p : Nat), .int .u64 (lo x.p : Nat), .int .i64 x.n, .int .i64 x.st, .string x.cl, .int .u32 (x.ia : Int), .int .i64 x.un]
abbrev Cv (c : Ch) : Value := .agg #[.bool c.gone, .int .i64 c.l.kind, .int .u64 (hi c.l.p : Nat), .int .u64 (lo c.l.p : Nat), .int .i64 c.l.n, .int .i64 c.l.st, .string c.l.cl, .int .u32 (c.l.ia : Int), .int .i64 c.l.un]

def rightS (k : Int) (p : Nat) (n : Int) : Bool :=
  soundS p n && (if k = 1 then to4O p && decide (n = 128) else if k = 2 ∨ k = 3 then decide (n = 128) else if k = 4 then decide (0 < n ∧ n < 128) else false)
def stateS (x : Ls) : Bool :=
  if x.st = 1 then decide (x.cl.size ≠ 0 ∧ x.cl.size ≤ 130 ∧ (x.kind ≠ 1 ∨ x.ia = 0)) else if x.st = 2 then decide (x.cl.size = 0 ∧ x.ia = 0 ∧ x.kind ≠ 4) else false
def leaseS (x : Ls) : Bool := rightS x.kind x.p x.n && (decide (0 ≤ x.un ∧ x.un ≤ 1099511627776) && stateS x)
def bareS (x : Ls) : Bool := decide (x.st = 0 ∧ x.cl.size = 0 ∧ x.ia = 0 ∧ x.un = 0)
def changeS (c : Ch) : Bool := if c.gone = true then rightS c.l.kind c.l.p c.l.n && bareS c.l else leaseS c.l
def cmpI (a b : Int) : Int := if a < b then -1 else if b < a then 1 else 0
def compareS (k : Int) (p : Nat) (n : Int) (j : Int) (q : Nat) (m : Int) : Int :=
  if cmpI k j ≠ 0 then cmpI k j else if cmpS p q ≠ 0 then cmpS p q else cmpI n m
def meetS (k : Int) (p : Nat) (n : Int) (j : Int) (q : Nat) (m : Int) : Bool :=
  (rightS k p n && rightS j q m) && (decide (k = 1 ↔ j = 1) && meetsS p n q m)

theorem size_zero {s : ByteArray} : s = ⟨#[]⟩ ↔ s.size = 0 := by
  constructor
  · rintro rfl; rfl
  · intro h
    apply ByteArray.ext
    exact Array.eq_empty_of_size_eq_zero h
theorem cmpI_lt {a b : Int} (h : a < b) : cmpI a b = -1 := by unfold cmpI; rw [if_pos h]
theorem cmpI_gt {a b : Int} (h : b < a) : cmpI a b = 1 := by unfold cmpI; rw [if_neg (by omega), if_pos h]
theorem cmpI_eq (a : Int) : cmpI a a = 0 := by unfold cmpI; rw [if_neg (by omega), if_neg (by omega)]
theorem cmpI_zero {a b : Int} : cmpI a b = 0 ↔ a = b := by
  unfold cmpI
  constructor
  · intro h; split at h
    · cases h
    · split at h
      · cases h
      · omega
  · rintro rfl; rw [if_neg (by omega), if_neg (by omega)]
end Go.Proofs.Ytpldkgollhbolaa
