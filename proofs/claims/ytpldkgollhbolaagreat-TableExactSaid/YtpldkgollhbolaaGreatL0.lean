/-
  Basics of the walks over lease and table: what a call gives, memory kept over calls; contracts of addr's calls (Cmp, To4, Clip, Has, Sound, Covers, Meets) and what they call. Conditions: a word is a word of 64 bits, an int is an int of 64 bits (every value of the types is such).
  What can be leased, leases, changes: plain definitions over numbers, lists and bytes; the values that hold them. No program is walked here. No condition beyond those in each theorem's own statement.
  How what can be leased meets and is ordered: plain mathematics. No program is walked here. No condition beyond those in each theorem's own statement.
  Contracts of lease.Right, Sound and Change: what each returns for every value of the types; no memory that existed is changed. Conditions: the words are words of 64 bits (every value of the type is such).
  Contracts of lease.Sound and Change: what each returns for every value of the types; no memory that existed is changed. Conditions: the words are words of 64 bits (every value of the type is such).
  Contracts of lease.Compare and Meets and of the library's cmp.Compare and cmp.Or at int: what each returns for every value of the types; no memory that existed is changed. Conditions: the words are words of 64 bits (every value of the type is such).
-/
import Derived.Test.YtpldkgollhbolaaGreatProg
import Derived.Test.YtpldkgollhbolaaGreatA0
import Derived.WalkKit
import Derived.WalkSpells
import Derived.WalkLawsBesides
import Derived.Laws.Externs
import Derived.RegionTactic
import Derived.ChangeAlike
import Derived.Lib.Strings
import Derived.Lib.Slices
import Derived.Lib.Small
import Derived.Lib.Walk
import Derived.Lib.BitFns
import Derived.Lib.SmallJoins
import Derived.ProofKit
import Derived.BigQuiet
import Derived.Deep.QuietTactic
import Derived.Laws.CopyOwn
import Derived.Laws.IdiomStrings
import Derived.Deep.AppendLies
import Derived.ArgAppend
import Derived.Laws.OwnMore
import Derived.Deep.RegionWith
import Derived.Deep.RegionHeld3
import Derived.StillTailTactics
namespace Go.Proofs.YtpldkgollhbolaaGreat
open Go.RowKit Go.Joins

abbrev A (a : Nat) : Value := .agg #[.int .u64 (hi a : Nat), .int .u64 (lo a : Nat)]
/-- a call with this one result, nothing old changed -/
def Gives (v : Value) (w : World) (e : Ending) (w' : World) : Prop := e = .returned v ∧ Below w.heap.size w w'
/-- a call with this one result, nothing touched at all -/
def Same (v : Value) (w : World) (e : Ending) (w' : World) : Prop := e = .returned v ∧ w = w'
theorem hide {p : Prop} (h : p) : Hid p := h
theorem bool_eq {a b : Bool} (h : a = b) : Value.bool a = .bool b := by rw [h]
theorem tup2 {x x' y y' : Value} (h : x = x') (k : y = y') : Value.tuple #[x, y] = .tuple #[x', y'] := by rw [h, k]
theorem tup3 {x x' y y' z z' : Value} (h : x = x') (k : y = y') (l : z = z') : Value.tuple #[x, y, z] = .tuple #[x', y', z'] := by rw [h, k, l]
theorem bcell {W w1 : World} (hb : Below W.heap.size W w1) : (∀ b o, b < W.heap.size → w1.cell? ⟨b, o, none⟩ = W.cell? ⟨b, o, none⟩) ∧ (∀ b o, b < W.heap.size → w1.frozen? ⟨b, o, none⟩ = W.frozen? ⟨b, o, none⟩) :=
  ⟨fun b o h => hb.cell (p := ⟨b, o, none⟩) h, fun b o h => hb.frozen (p := ⟨b, o, none⟩) h⟩
theorem keep_cell {W w2 : World} {p : Go.Addr} {v : Value} (hb : Below W.heap.size W w2) (h : W.cell? p = some v) : w2.cell? p = some v := by
  rw [hb.cell (World.block_lt_of_cell? W p h), h]
theorem keep_free {W w2 : World} {p : Go.Addr} (hb : Below W.heap.size W w2) (hl : p.block < W.heap.size) (h : W.frozen? p = false) : w2.frozen? p = false := by
  rw [hb.frozen hl, h]
theorem below_alloc (W : World) (o : Obj) : Below W.heap.size W (W.alloc o) := (Below.refl _ _).alloc (Nat.le_refl _) _
theorem below_drew (W : World) : Below W.heap.size W W.drew := (Below.refl _ _).drew
theorem below_drewN (W : World) (n : Nat) : Below W.heap.size W (W.drewN n) := ⟨rfl, rfl, rfl, Nat.le_refl _, fun _ _ => rfl⟩
theorem chain {w v v' : World} (h : Below w.heap.size w v) (k : Below v.heap.size v v') : Below w.heap.size w v' := h.trans (k.mono h.size)
/-- a text of bytes -/
abbrev St (l : List UInt8) : Value := .string ⟨l.toArray⟩
theorem st_eq {a b : List UInt8} (h : a = b) : St a = St b := by rw [h]
/-- an int of 64 bits -/
def I64 (a : Int) : Prop := -9223372036854775808 ≤ a ∧ a ≤ 9223372036854775807
theorem agg2 {x x' y y' : Int} (h : x = x') (k : y = y') : Value.agg #[.int .u64 x, .int .u64 y] = .agg #[.int .u64 x', .int .u64 y'] := by rw [h, k]
theorem i64_eq {a b : Int} (h : a = b) : Value.int .i64 a = .int .i64 b := by rw [h]
theorem u64_eq {a b : Int} (h : a = b) : Value.int .u64 a = .int .u64 b := by rw [h]
theorem cmpS_lt {a b : Nat} (h : a < b) : cmpS a b = -1 := by unfold cmpS; rw [if_pos h]
theorem cmpS_gt {a b : Nat} (h : b < a) : cmpS a b = 1 := by unfold cmpS; rw [if_neg (by omega), if_pos h]
theorem cmpS_eq {a b : Nat} (h : a = b) : cmpS a b = 0 := by unfold cmpS; rw [if_neg (by omega), if_neg (by omega)]
set_option maxHeartbeats 400000 in
theorem compare_any (x y : Nat) (w : World) :
    Calls Tryz.prog 100 #[.int .u64 (x : Nat), .int .u64 (y : Nat)] w (Gives (.int .i64 (cmpS x y)) w) := by
  rcases Nat.lt_trichotomy x y with h | h | h
  · have e := cmpS_lt h
    have H := hide e
    clear e
    go_enter Tryz.func100, Tryz.ntmps100
    go_wp2
    go_ret
    exact ⟨congrArg Ending.returned (i64_eq H.out.symm), Below.refl _ _⟩
  · subst h
    have H := hide (cmpS_eq (rfl : x = x))
    go_enter Tryz.func100, Tryz.ntmps100
    go_wp2
    go_ret
    exact ⟨congrArg Ending.returned (i64_eq H.out.symm), Below.refl _ _⟩
  · have e := cmpS_gt h
    have H := hide e
    clear e
    go_enter Tryz.func100, Tryz.ntmps100
    go_wp2
    go_ret
    exact ⟨congrArg Ending.returned (i64_eq H.out.symm), Below.refl _ _⟩
set_option maxHeartbeats 400000 in
theorem cmp_any (a b : Nat) (w : World) :
    Calls Tryz.prog 86 #[A a, A b] w (Gives (.int .i64 (cmpS a b)) w) := by
  by_cases h : hi a = hi b
  · have H := hide (cmp_lo h)
    have K : (((hi a : Nat) : Int) != ((hi b : Nat) : Int)) = false := by rw [h]; simp
    clear h
    go_enter Tryz.func86, Tryz.ntmps86
    go_wp2_with (go_at_call 100; refine (compare_any _ _ _).mono ?_; rintro e w' ⟨rfl, hb⟩)
    go_ret
    exact ⟨congrArg Ending.returned (i64_eq H.out), (((Below.refl _ _).alloc (Nat.le_refl _) _).alloc (by simp) _).trans (hb.mono (by simp; omega))⟩
  · have H := hide (cmp_hi h)
    have K : (((hi a : Nat) : Int) != ((hi b : Nat) : Int)) = true := by simp; omega
    clear h
    go_enter Tryz.func86, Tryz.ntmps86
    go_wp2_with (go_at_call 100; refine (compare_any _ _ _).mono ?_; rintro e w' ⟨rfl, hb⟩)
    go_ret
    exact ⟨congrArg Ending.returned (i64_eq H.out), (((Below.refl _ _).alloc (Nat.le_refl _) _).alloc (by simp) _).trans (hb.mono (by simp; omega))⟩
theorem wrap_sub {n : Int} (h : 64 ≤ n) (h2 : n ≤ 9223372036854775807) : wrap64 (n - 64) = n - 64 := IntWalk.wrap64_in _ ⟨by omega, by omega⟩
theorem div_big {x : Nat} (h : x < 18446744073709551616) (k : Nat) : (x : Int) / 2 ^ min (k + 64) 64 = 0 := by
  rw [show min (k + 64) 64 = 64 by omega, cast_div, Nat.div_eq_of_lt h]
  rfl
/-- an int that is not beyond the greatest one -/
def I63 (n : Int) : Prop := n ≤ 9223372036854775807
theorem shr_far {x : Nat} (hx : x < 18446744073709551616) (n : Int) (h : 128 ≤ n) (h2 : I63 n) (w : World) :
    (Op.shift BinOp.shr IntKind.u64 (x : Nat) IntKind.i64 (wrap64 (n - 64))).run Tryz.prog w = .ok (.int .u64 0) w := by
  rw [wrap_sub (by omega) h2, shift_shr_any _ _ _ _ (by omega)]
  have e := div_big hx (n.toNat - 128)
  rw [show n.toNat - 128 + 64 = (n - 64).toNat by omega] at e
  simp only [IntKind.bits, e]
  rfl
set_option maxHeartbeats 400000 in
theorem down_any {a : Nat} (ha : Fits a) (n : Int) (hn : I63 n) (w : World) :
    Calls Tryz.prog 110 #[A a, .int .i64 n] w (Gives (A (downS a n.toNat)) w) := by
  by_cases h0 : n ≤ 0
  · have H := hide (downS_none a)
    have E : n.toNat = 0 := by omega
    rw [E]
    clear E
    go_enter Tryz.func110, Tryz.ntmps110
    go_wp2
    exact bodyPost_ret (v := A (downS a 0)) (by simp [results, Tryz.results110, go_sem, H.out]) rfl ⟨rfl, ((Below.refl _ _).alloc (Nat.le_refl _) _).alloc (by simp) _⟩
  by_cases h1 : n < 64
  · have h0 : 0 < n := by omega
    go_enter Tryz.func110, Tryz.ntmps110
    go_wp2
    go_region
    go_wp2
    exact bodyPost_ret (v := A (downS a n.toNat)) (by simp [results, Tryz.results110, go_sem, w_down_lo a h0 h1, w_down_hi]) rfl ⟨rfl, (((Below.refl _ _).alloc (Nat.le_refl _) _).alloc (by simp) _).drew⟩
  by_cases h2 : n < 128
  · have h1 : 64 ≤ n := by omega
    have h0 : 0 < n := by omega
    have H := hide (w_down_big ha h1)
    have K := hide (hi_down_big ha (show 64 ≤ n.toNat by omega))
    go_enter Tryz.func110, Tryz.ntmps110
    go_wp2
    exact bodyPost_ret (v := A (downS a n.toNat)) (by simp [results, Tryz.results110, go_sem, H.out, K.out]) rfl ⟨rfl, ((Below.refl _ _).alloc (Nat.le_refl _) _).alloc (by simp) _⟩
  · have h1 : 64 ≤ n := by omega
    have h0 : 0 < n := by omega
    have K := hide (downS_zero ha (show 128 ≤ n.toNat by omega))
    have S := shr_far (hi_lt ha) n (by omega) hn
    go_enter Tryz.func110, Tryz.ntmps110
    go_wp2
    exact bodyPost_ret (v := A (downS a n.toNat)) (by simp [results, Tryz.results110, go_sem, K.out, hi_zero, lo_zero]) rfl ⟨rfl, ((Below.refl _ _).alloc (Nat.le_refl _) _).alloc (by simp) _⟩
theorem A_ones : Value.agg #[.int .u64 18446744073709551615, .int .u64 18446744073709551615] = A ones := by
  unfold A; rw [hi_ones, lo_ones]; rfl
set_option maxHeartbeats 400000 in
theorem tail_any (n : Int) (hn : I63 n) (w : World) :
    Calls Tryz.prog 109 #[.int .i64 n] w (Gives (A (downS ones n.toNat)) w) := by
  go_enter Tryz.func109, Tryz.ntmps109
  go_wp2_with fail
  rw [A_ones]
  refine (down_any fits_ones n hn _).mono ?_
  rintro e w' ⟨rfl, hb⟩
  obtain ⟨hc, hf⟩ := bcell hb
  have hz : w.heap.size < w'.heap.size := by have := hb.size; simp at this; omega
  go_wp2
  exact bodyPost_ret (v := A (downS ones n.toNat)) (by simp [results, Tryz.results109, go_sem, hc]) rfl ⟨rfl, ((((Below.refl _ _).alloc (Nat.le_refl _) _).trans (hb.mono (by simp))).setCell (by simp) _).setCell (by simp) _⟩
theorem hi_small {n : Nat} (h : n < 18446744073709551616) : hi n = 0 := by unfold hi; omega
theorem lo_small {n : Nat} (h : n < 18446744073709551616) : lo n = n := by unfold lo; omega
def to4S (a : Nat) : Nat := if a < 4294967296 then a else 0
def to4O (a : Nat) : Bool := decide (a < 4294967296)
set_option maxHeartbeats 400000 in
theorem to4_any (a : Nat) (w : World) :
    Calls Tryz.prog 88 #[A a] w (Gives (.tuple #[.int .u32 (to4S a : Nat), .bool (to4O a)]) w) := by
  have hl := lo_lt a
  have e := hi_lo a
  by_cases h : a < 4294967296
  · have H := hide (show to4S a = lo a by unfold to4S; rw [if_pos h, lo_small (by omega)])
    have K := hide (show to4O a = true by unfold to4O; simpa using h)
    have h1 : hi a = 0 := hi_small (by omega)
    have h2 : ((hi a : Int) != 0) = false := by rw [h1]; rfl
    have h3 : ¬ (4294967295 < (lo a : Int)) := by omega
    clear h hl e h1
    go_enter Tryz.func88, Tryz.ntmps88
    go_wp2
    go_ret2
    exact ⟨congrArg Ending.returned (tup2 (by rw [H.out]; rfl) (bool_eq K.out.symm)), (Below.refl _ _).alloc (Nat.le_refl _) _⟩
  · have H := hide (show to4S a = 0 by unfold to4S; rw [if_neg h])
    have K := hide (show to4O a = false by unfold to4O; simpa using h)
    by_cases h1 : hi a = 0
    · have h2 : ((hi a : Int) != 0) = false := by rw [h1]; rfl
      have h3 : 4294967295 < (lo a : Int) := by omega
      clear h hl e h1
      go_enter Tryz.func88, Tryz.ntmps88
      go_wp2
      go_ret2
      exact ⟨congrArg Ending.returned (tup2 (by rw [H.out]; rfl) (bool_eq K.out.symm)), (Below.refl _ _).alloc (Nat.le_refl _) _⟩
    · have h2 : ((hi a : Int) != 0) = true := by simpa using h1
      clear h hl e h1
      go_enter Tryz.func88, Tryz.ntmps88
      go_wp2
      go_ret2
      exact ⟨congrArg Ending.returned (tup2 (by rw [H.out]; rfl) (bool_eq K.out.symm)), (Below.refl _ _).alloc (Nat.le_refl _) _⟩
/-- a prefix as the program holds it -/
abbrev Pv (p : Nat) (n : Int) : Value := .agg #[.int .u64 (hi p : Nat), .int .u64 (lo p : Nat), .int .i64 n]
set_option maxHeartbeats 400000 in
theorem clip_any {a : Nat} (ha : Fits a) (n : Int) (w : World) :
    Calls Tryz.prog 107 #[A a, .int .i64 n] w (Gives (.tuple #[Pv (clipA a n) (clipN n), .bool (okN n)]) w) := by
  by_cases h0 : n < 0
  · have K := hide (show okN n = false by unfold okN; simp; omega)
    have K1 := hide (show clipA a n = 0 by unfold clipA; rw [K.out]; rfl)
    have K2 := hide (show clipN n = 0 by unfold clipN; rw [K.out]; rfl)
    go_enter Tryz.func107, Tryz.ntmps107
    go_wp2
    refine bodyPost_ret (v := .tuple #[Pv (clipA a n) (clipN n), .bool (okN n)]) ?_ rfl ⟨rfl, ((Below.refl _ _).alloc (Nat.le_refl _) _).alloc (by simp) _⟩
    rw [K.out, K1.out, K2.out]
    simp [results, Tryz.results107, go_sem, hi_zero, lo_zero]
  by_cases h1 : 128 < n
  · have K := hide (show okN n = false by unfold okN; simp; omega)
    have K1 := hide (show clipA a n = 0 by unfold clipA; rw [K.out]; rfl)
    have K2 := hide (show clipN n = 0 by unfold clipN; rw [K.out]; rfl)
    go_enter Tryz.func107, Tryz.ntmps107
    go_wp2
    refine bodyPost_ret (v := .tuple #[Pv (clipA a n) (clipN n), .bool (okN n)]) ?_ rfl ⟨rfl, ((Below.refl _ _).alloc (Nat.le_refl _) _).alloc (by simp) _⟩
    rw [K.out, K1.out, K2.out]
    simp [results, Tryz.results107, go_sem, hi_zero, lo_zero]
  · have h0 : 0 ≤ n := by omega
    have h1 : n ≤ 128 := by omega
    have K := hide (show okN n = true by unfold okN; simp; omega)
    have K1 := hide (show clipA a n = clipS a n.toNat by unfold clipA; rw [K.out]; rfl)
    have K2 := hide (show clipN n = n by unfold clipN; rw [K.out]; rfl)
    have K3 := hide (w_clip_hi ha (show n.toNat ≤ 128 by omega))
    have K4 := hide (w_clip_lo ha (show n.toNat ≤ 128 by omega))
    go_enter Tryz.func107, Tryz.ntmps107
    go_wp2_with fail
    refine (tail_any n (by unfold I63; omega) _).mono ?_
    rintro e w' ⟨rfl, hb⟩
    obtain ⟨hc, hf⟩ := bcell hb
    have hz : w.heap.size + 1 < w'.heap.size := by have := hb.size; simp at this; omega
    have hz0 : w.heap.size < w'.heap.size := by omega
    go_wp2
    refine bodyPost_ret (v := .tuple #[Pv (clipA a n) (clipN n), .bool (okN n)]) ?_ rfl ⟨rfl, ?_⟩
    · rw [K.out, K1.out, K2.out]
      simp [results, Tryz.results107, go_sem, hc, hz, K3.out, K4.out]
    · exact (((((((Below.refl _ _).alloc (Nat.le_refl _) _).alloc (by simp) _).trans (hb.mono (by simp; omega))).setCell (by simp) _).setCell (by simp) _).setCell (by simp) _).alloc (by simp; omega) _
theorem has_words (p : Nat) (n : Int) (a : Nat) : hasS p n a = (okN n && (decide (hi (clipA a n) = hi p) && decide (lo (clipA a n) = lo p))) := by
  unfold hasS
  by_cases h : okN n = true
  · have e : clipA a n = clipS a n.toNat := by unfold clipA; rw [if_pos h]
    rw [h, e, Bool.true_and, Bool.true_and]
    by_cases k : clipS a n.toNat = p
    · rw [k]; simp
    · rw [decide_eq_false k]
      symm
      rw [Bool.and_eq_false_iff]
      by_cases k1 : hi (clipS a n.toNat) = hi p
      · right
        exact decide_eq_false fun k2 => k (eq_of_words k1 k2)
      · left; exact decide_eq_false k1
  · simp [h]
theorem clipN_ok {n : Int} (h : okN n = true) : clipN n = n := by unfold clipN; rw [if_pos h]
set_option maxHeartbeats 400000 in
theorem has_any {p a : Nat} (ha : Fits a) (n : Int) (w : World) :
    Calls Tryz.prog 101 #[Pv p n, A a] w (Gives (.bool (hasS p n a)) w) := by
  have fin : ∀ w' : World, Below w.heap.size w w' → ∀ b : Bool, b = hasS p n a → Gives (.bool (hasS p n a)) w (.returned (.bool b)) w' := fun w' h b e => ⟨by rw [e], h⟩
  have hk : ∀ b : Bool, okN n = b → okN n = b := fun _ h => h
  by_cases ho : okN n = true
  · have hn := clipN_ok ho
    have F := hide (fin)
    clear fin hk
    go_enter Tryz.func101, Tryz.ntmps101
    go_wp2_with fail
    refine (clip_any ha n _).mono ?_
    rintro e w' ⟨rfl, hb⟩
    obtain ⟨hc, hf⟩ := bcell hb
    have hz : w.heap.size + 1 < w'.heap.size := by have := hb.size; simp at this; omega
    have hz0 : w.heap.size < w'.heap.size := by omega
    go_wp2
    all_goals go_ret
    all_goals refine F.out _ (((((Below.refl _ _).alloc (Nat.le_refl _) _).alloc (by simp) _).trans (hb.mono (by simp; omega))).alloc (by omega) _) _ ?_
    all_goals (rw [has_words]; simp [*]; try omega)
  · have hq : hasS p n a = false := by unfold hasS; simp [ho]
    have F := hide (fin)
    have Q := hide hq
    have ho : okN n = false := by simpa using ho
    clear fin hk hq
    go_enter Tryz.func101, Tryz.ntmps101
    go_wp2_with fail
    refine (clip_any ha n _).mono ?_
    rintro e w' ⟨rfl, hb⟩
    obtain ⟨hc, hf⟩ := bcell hb
    have hz : w.heap.size + 1 < w'.heap.size := by have := hb.size; simp at this; omega
    have hz0 : w.heap.size < w'.heap.size := by omega
    go_wp2
    go_ret
    exact F.out _ (((((Below.refl _ _).alloc (Nat.le_refl _) _).alloc (by simp) _).trans (hb.mono (by simp; omega))).alloc (by omega) _) _ Q.out.symm
set_option maxHeartbeats 400000 in
theorem sound_any {p : Nat} (hp : Fits p) (n : Int) (w : World) :
    Calls Tryz.prog 87 #[Pv p n] w (Gives (.bool (soundS p n)) w) := by
  go_enter Tryz.func87, Tryz.ntmps87
  go_wp2_with fail
  refine (has_any (p := p) hp n _).mono ?_
  rintro e w' ⟨rfl, hb⟩
  go_wp2
  go_ret
  exact ⟨rfl, ((Below.refl _ _).alloc (Nat.le_refl _) _).trans (hb.mono (by simp))⟩
set_option maxHeartbeats 400000 in
theorem covers_any {p q : Nat} (hq : Fits q) (n m : Int) (w : World) :
    Calls Tryz.prog 94 #[Pv p n, Pv q m] w (Gives (.bool (coversS p n q m)) w) := by
  have fin : ∀ (w' : World) (b : Bool), Below w.heap.size w w' → b = coversS p n q m → Gives (.bool (coversS p n q m)) w (.returned (.bool b)) w' := fun w' b h e => ⟨by rw [e], h⟩
  have F := hide (fin)
  clear fin
  go_enter Tryz.func94, Tryz.ntmps94
  go_wp2_with fail
  refine (sound_any hq m _).mono ?_
  rintro e w' ⟨rfl, hb⟩
  obtain ⟨hc, hf⟩ := bcell hb
  have hz : w.heap.size + 1 < w'.heap.size := by have := hb.size; simp at this; omega
  have hz0 : w.heap.size < w'.heap.size := by omega
  go_wp2_with (go_at_call 101; refine (has_any (p := p) hq n _).mono ?_; rintro e w2 ⟨rfl, hb2⟩)
  all_goals go_ret
  all_goals refine F.out _ _ ?_ ?_
  all_goals first
    | exact ((((Below.refl _ _).alloc (Nat.le_refl _) _).alloc (by simp) _).trans (hb.mono (by simp; omega))).trans (hb2.mono (by omega))
    | exact (((Below.refl _ _).alloc (Nat.le_refl _) _).alloc (by simp) _).trans (hb.mono (by simp; omega))
    | (unfold coversS; simp [*]; done)
    | (unfold coversS; simp [*]; omega)
set_option maxHeartbeats 400000 in
theorem meets_any {p q : Nat} (hp : Fits p) (hq : Fits q) (n m : Int) (w : World) :
    Calls Tryz.prog 74 #[Pv p n, Pv q m] w (Gives (.bool (meetsS p n q m)) w) := by
  have fin : ∀ (w' : World) (b : Bool), Below w.heap.size w w' → b = meetsS p n q m → Gives (.bool (meetsS p n q m)) w (.returned (.bool b)) w' := fun w' b h e => ⟨by rw [e], h⟩
  have F := hide (fin)
  clear fin
  go_enter Tryz.func74, Tryz.ntmps74
  go_wp2_with fail
  refine (covers_any (p := p) hq n m _).mono ?_
  rintro e w' ⟨rfl, hb⟩
  obtain ⟨hc, hf⟩ := bcell hb
  have hz : w.heap.size + 1 < w'.heap.size := by have := hb.size; simp at this; omega
  have hz0 : w.heap.size < w'.heap.size := by omega
  go_wp2_with (go_at_call 94; refine (covers_any (p := q) hp m n _).mono ?_; rintro e w2 ⟨rfl, hb2⟩)
  all_goals go_ret
  all_goals refine F.out _ _ ?_ ?_
  all_goals first
    | exact ((((Below.refl _ _).alloc (Nat.le_refl _) _).alloc (by simp) _).trans (hb.mono (by simp; omega))).trans (hb2.mono (by omega))
    | exact (((Below.refl _ _).alloc (Nat.le_refl _) _).alloc (by simp) _).trans (hb.mono (by simp; omega))
    | (unfold meetsS; simp [*]; done)
    | (unfold meetsS; simp [*]; omega)
end Go.Proofs.YtpldkgollhbolaaGreat
namespace Go.Proofs.YtpldkgollhbolaaGreat
open Go.RowKit Go.Joins

/-- a lease: kind, the prefix's address and bits, state, client, iaid, until -/
structure Ls where
  kind : Int
  p : Nat
  n : Int
  st : Int
  cl : ByteArray
  ia : Nat
  un : Int
/-- a change -/
structure Ch where
  gone : Bool
  l : Ls
structure Ls.ok (x : Ls) : Prop where
  kind : I64 x.kind
  p : Fits x.p
  n : I64 x.n
  st : I64 x.st
  cl : x.cl.size ≤ maxLen
  ia : x.ia < 4294967296
  un : I64 x.un
def wdL (x : Ls) : List Value := [.int .i64 x.kind, .int .u64 (hi x.p : Nat), .int .u64 (lo x.p : Nat), .int .i64 x.n, .int .i64 x.st, .string x.cl, .int .u32 (x.ia : Int), .int .i64 x.un]
def wdC (c : Ch) : List Value := .bool c.gone :: wdL c.l
abbrev Lv (x : Ls) : Value := .agg #[.int .i64 x.kind, .int .u64 (hi x.p : Nat), .int .u64 (lo x.p : Nat), .int .i64 x.n, .int .i64 x.st, .string x.cl, .int .u32 (x.ia : Int), .int .i64 x.un]
abbrev Cv (c : Ch) : Value := .agg #[.bool c.gone, .int .i64 c.l.kind, .int .u64 (hi c.l.p : Nat), .int .u64 (lo c.l.p : Nat), .int .i64 c.l.n, .int .i64 c.l.st, .string c.l.cl, .int .u32 (c.l.ia : Int), .int .i64 c.l.un]

def rightS (k : Int) (p : Nat) (n : Int) : Bool :=
  soundS p n && (if k = 1 then to4O p && decide (n = 128) else if k = 2 ∨ k = 3 then decide (n = 128) else if k = 4 then decide (0 < n ∧ n < 128) else false)
def stateS (x : Ls) : Bool :=
  if x.st = 1 then decide (x.cl.size ≠ 0 ∧ x.cl.size ≤ 130 ∧ (x.kind ≠ 1 ∨ x.ia = 0)) else if x.st = 2 then decide (x.cl.size = 0 ∧ x.ia = 0 ∧ x.kind ≠ 4) else false
def leaseS (x : Ls) : Bool := rightS x.kind x.p x.n && (decide (0 ≤ x.un ∧ x.un ≤ 1099511627776) && stateS x)
def bareS (x : Ls) : Bool := decide (x.st = 0 ∧ x.cl.size = 0 ∧ x.ia = 0 ∧ x.un = 0)
def changeS (c : Ch) : Bool := if c.gone = true then rightS c.l.kind c.l.p c.l.n && bareS c.l else leaseS c.l
def cmpI (a b : Int) : Int := if a < b then -1 else if b < a then 1 else 0
def compareS (k : Int) (p : Nat) (n : Int) (j : Int) (q : Nat) (m : Int) : Int :=
  if cmpI k j ≠ 0 then cmpI k j else if cmpS p q ≠ 0 then cmpS p q else cmpI n m
def meetS (k : Int) (p : Nat) (n : Int) (j : Int) (q : Nat) (m : Int) : Bool :=
  (rightS k p n && rightS j q m) && (decide (k = 1 ↔ j = 1) && meetsS p n q m)

theorem size_zero {s : ByteArray} : s = ⟨#[]⟩ ↔ s.size = 0 := by
  constructor
  · rintro rfl; rfl
  · intro h
    apply ByteArray.ext
    exact Array.eq_empty_of_size_eq_zero h
theorem cmpI_lt {a b : Int} (h : a < b) : cmpI a b = -1 := by unfold cmpI; rw [if_pos h]
theorem cmpI_gt {a b : Int} (h : b < a) : cmpI a b = 1 := by unfold cmpI; rw [if_neg (by omega), if_pos h]
theorem cmpI_eq (a : Int) : cmpI a a = 0 := by unfold cmpI; rw [if_neg (by omega), if_neg (by omega)]
theorem cmpI_zero {a b : Int} : cmpI a b = 0 ↔ a = b := by
  unfold cmpI
  constructor
  · intro h; split at h
    · cases h
    · split at h
      · cases h
      · omega
  · rintro rfl; rw [if_neg (by omega), if_neg (by omega)]
end Go.Proofs.YtpldkgollhbolaaGreat
namespace Go.Proofs.YtpldkgollhbolaaGreat
open Go.RowKit Go.Joins

theorem right_sound {k : Int} {p : Nat} {n : Int} (h : rightS k p n = true) : soundS p n = true := by
  unfold rightS at h
  rw [Bool.and_eq_true] at h
  exact h.1
theorem right_host {p : Nat} {n : Int} (h : rightS 1 p n = true) : n = 128 := by
  unfold rightS at h
  rw [Bool.and_eq_true, if_pos rfl, Bool.and_eq_true, decide_eq_true_eq] at h
  exact h.2.2
theorem meets_comm (p : Nat) (n : Int) (q : Nat) (m : Int) : meetsS p n q m = meetsS q m p n := by unfold meetsS; rw [Bool.or_comm]
theorem meet_comm (k : Int) (p : Nat) (n : Int) (j : Int) (q : Nat) (m : Int) : meetS k p n j q m = meetS j q m k p n := by
  unfold meetS
  rw [meets_comm, Bool.and_comm (rightS k p n)]
  congr 2
  exact decide_eq_decide.2 ⟨Iff.symm, Iff.symm⟩
theorem covers_self (p : Nat) (n : Int) : coversS p n p n = soundS p n := by
  unfold coversS
  have e : hasS p n p = soundS p n := rfl
  rw [e, decide_eq_true (Int.le_refl n), Bool.true_and, Bool.and_self]
theorem meet_self (k : Int) (p : Nat) (n : Int) : meetS k p n k p n = rightS k p n := by
  unfold meetS meetsS
  rw [covers_self, Bool.or_self, Bool.and_self, decide_eq_true Iff.rfl, Bool.true_and]
  cases h : rightS k p n with
  | false => rfl
  | true => rw [right_sound h]; rfl
theorem meet_right {k : Int} {p : Nat} {n : Int} {j : Int} {q : Nat} {m : Int} (h : rightS k p n = false ∨ rightS j q m = false) : meetS k p n j q m = false := by
  unfold meetS
  rcases h with h | h <;> rw [h] <;> simp
theorem covers_has1 {p q : Nat} {n m : Int} (h : coversS p n q m = true) : hasS p n q = true := by
  unfold coversS at h
  simp only [Bool.and_eq_true] at h
  exact h.2.2
theorem has_covers {p q : Nat} {n m : Int} (hp : soundS p n = true) (hq : soundS q m = true) (h : hasS p n q = true) : meetsS p n q m = true := by
  unfold meetsS
  rw [Bool.or_eq_true]
  by_cases hnm : n ≤ m
  · left
    unfold coversS
    rw [hq, decide_eq_true hnm, h]; rfl
  · right
    have h1 := has_iff.1 h
    have h2 := sound_iff.1 hq
    unfold coversS
    rw [hp, decide_eq_true (by omega)]
    refine has_iff.2 ⟨h2.1, ?_⟩
    rw [← h1.2, clip_fewer (by omega)]
    exact h2.2
theorem meets_has {p q : Nat} {n m : Int} (hp : soundS p n = true) (hq : soundS q m = true) : meetsS p n q m = (hasS p n q || hasS q m p) := by
  rw [Bool.eq_iff_iff, Bool.or_eq_true]
  constructor
  · intro h
    unfold meetsS at h
    rw [Bool.or_eq_true] at h
    exact h.imp covers_has1 covers_has1
  · rintro (h | h)
    · exact has_covers hp hq h
    · rw [meets_comm]; exact has_covers hq hp h
theorem meet_v6 {k : Int} {p : Nat} {n : Int} {j : Int} {q : Nat} {m : Int} (hx : rightS k p n = true) (hy : rightS j q m = true) (h1 : k ≠ 1) (h2 : j ≠ 1) : meetS k p n j q m = (hasS p n q || hasS q m p) := by
  unfold meetS
  rw [hx, hy, decide_eq_true (by constructor <;> intro h <;> contradiction), meets_has (right_sound hx) (right_sound hy)]
  simp
theorem meet_v4 {k : Int} {p : Nat} {n : Int} {j : Int} {q : Nat} {m : Int} (hx : rightS k p n = true) (hy : rightS j q m = true) (h : k = 1 ∨ j = 1) : meetS k p n j q m = decide (k = j ∧ p = q ∧ n = m) := by
  by_cases hk : k = 1
  · subst hk
    by_cases hj : j = 1
    · subst hj
      have e1 := right_host hx
      have e2 := right_host hy
      subst e1 e2
      unfold meetS
      rw [hx, hy, decide_eq_true Iff.rfl, meets_has (right_sound hx) (right_sound hy)]
      unfold hasS
      rw [show clipS q (128 : Int).toNat = q from clip_all q, show clipS p (128 : Int).toNat = p from clip_all p]
      rw [show okN 128 = true from rfl]
      by_cases e : p = q
      · simp [e]
      · simp [e, Ne.symm e]
    · unfold meetS
      rw [decide_eq_false (by intro e; exact hj (e.1 rfl)), decide_eq_false (by intro e; exact hj e.1.symm)]
      simp
  · have hj : j = 1 := h.resolve_left hk
    unfold meetS
    rw [decide_eq_false (by intro e; exact hk (e.2 hj)), decide_eq_false (by intro e; exact hk (e.1.trans hj))]
    simp

/-! ### the order -/
theorem cmpI_range (a b : Int) : cmpI a b = -1 ∨ cmpI a b = 0 ∨ cmpI a b = 1 := by unfold cmpI; split; · simp
                                                                                   split <;> simp
theorem cmpI_neg (a b : Int) : cmpI b a = -cmpI a b := by
  rcases Int.lt_trichotomy a b with h | h | h
  · rw [cmpI_lt h, cmpI_gt h]; rfl
  · rw [h, cmpI_eq]; rfl
  · rw [cmpI_gt h, cmpI_lt h]
theorem cmpS_cmpI (a b : Nat) : cmpS a b = cmpI a b := by
  rcases Nat.lt_trichotomy a b with h | h | h
  · rw [cmpS_lt h, cmpI_lt (by omega)]
  · rw [cmpS_eq h, h, cmpI_eq]
  · rw [cmpS_gt h, cmpI_gt (by omega)]
theorem compare_eq (k : Int) (p : Nat) (n : Int) (j : Int) (q : Nat) (m : Int) : compareS k p n j q m = if cmpI k j ≠ 0 then cmpI k j else if cmpI p q ≠ 0 then cmpI p q else cmpI n m := by
  unfold compareS; rw [cmpS_cmpI]
theorem compare_range (k : Int) (p : Nat) (n : Int) (j : Int) (q : Nat) (m : Int) : -1 ≤ compareS k p n j q m ∧ compareS k p n j q m ≤ 1 := by
  rw [compare_eq]
  have h1 := cmpI_range k j
  have h2 := cmpI_range p q
  have h3 := cmpI_range n m
  split
  · omega
  · split <;> omega
theorem compare_neg (k : Int) (p : Nat) (n : Int) (j : Int) (q : Nat) (m : Int) : compareS j q m k p n = -compareS k p n j q m := by
  rw [compare_eq, compare_eq, cmpI_neg k j, cmpI_neg p q, cmpI_neg n m]
  by_cases h1 : cmpI k j = 0
  · rw [h1]
    by_cases h2 : cmpI p q = 0
    · rw [h2]; simp
    · have : -cmpI (p : Int) q ≠ 0 := by omega
      simp [h2]
  · have : -cmpI k j ≠ 0 := by omega
    simp [h1]
theorem compare_zero {k : Int} {p : Nat} {n : Int} {j : Int} {q : Nat} {m : Int} : compareS k p n j q m = 0 ↔ k = j ∧ p = q ∧ n = m := by
  rw [compare_eq]
  constructor
  · intro h
    split at h
    · contradiction
    · rename_i h1
      split at h
      · contradiction
      · rename_i h2
        have a := cmpI_zero.1 (Decidable.not_not.1 h1)
        have b := cmpI_zero.1 (Decidable.not_not.1 h2)
        have c := cmpI_zero.1 h
        omega
  · rintro ⟨rfl, rfl, rfl⟩
    simp [cmpI_eq]
theorem cmpI_le {a b : Int} : cmpI a b ≤ 0 ↔ a ≤ b := by
  rcases Int.lt_trichotomy a b with h | h | h
  · rw [cmpI_lt h]; omega
  · rw [h, cmpI_eq]; omega
  · rw [cmpI_gt h]; omega
theorem compare_le {k : Int} {p : Nat} {n : Int} {j : Int} {q : Nat} {m : Int} : compareS k p n j q m ≤ 0 ↔ k < j ∨ (k = j ∧ ((p : Int) < q ∨ (p = q ∧ n ≤ m))) := by
  rw [compare_eq]
  rcases Int.lt_trichotomy k j with h | h | h
  · rw [cmpI_lt h]; simp; omega
  · subst h
    rw [cmpI_eq, if_neg (by simp)]
    rcases Int.lt_trichotomy (p : Int) q with h2 | h2 | h2
    · rw [cmpI_lt h2]; simp; omega
    · have e : p = q := by omega
      subst e
      rw [cmpI_eq, if_neg (by simp), cmpI_le]
      omega
    · rw [cmpI_gt h2]; simp; omega
  · rw [cmpI_gt h]; simp; omega
theorem compare_trans {k1 k2 k3 : Int} {p1 p2 p3 : Nat} {n1 n2 n3 : Int} (h : compareS k1 p1 n1 k2 p2 n2 ≤ 0) (h2 : compareS k2 p2 n2 k3 p3 n3 ≤ 0) : compareS k1 p1 n1 k3 p3 n3 ≤ 0 := by
  rw [compare_le] at *
  omega
end Go.Proofs.YtpldkgollhbolaaGreat
namespace Go.Proofs.YtpldkgollhbolaaGreat
open Go.RowKit Go.Joins

theorem beq_dec (a b : Int) : (a == b) = decide (a = b) := rfl

set_option maxRecDepth 100000 in
set_option maxHeartbeats 1000000 in
theorem right_any (k : Int) {p : Nat} (hp : Fits p) (n : Int) (w : World) :
    Calls Tryz.prog 64 #[.int .i64 k, Pv p n] w (Gives (.bool (rightS k p n)) w) := by
  have F : Hid (∀ (w' : World) (b : Bool), Below w.heap.size w w' → b = rightS k p n → Gives (.bool (rightS k p n)) w (.returned (.bool b)) w') := fun w' b h e => ⟨by rw [e], h⟩
  have S := hide (fun W => sound_any hp n W)
  have T := hide (fun W => to4_any p W)
  cases hs : soundS p n with
  | false =>
    rw [hs] at S
    have K := hide (show rightS k p n = false by unfold rightS; rw [hs]; rfl)
    clear hs
    go_enter Tryz.func64, Tryz.ntmps64
    go_wp2_with fail
    refine (S.out _).mono ?_
    rintro e w' ⟨rfl, hb⟩
    obtain ⟨hc, hf⟩ := bcell hb
    have hz : w.heap.size < w'.heap.size := by have := hb.size; simp at this; omega
    go_wp2
    go_ret
    exact F.out _ _ (((Below.refl _ _).alloc (Nat.le_refl _) _).trans (hb.mono (by simp))) K.out.symm
  | true =>
    rw [hs] at S
    have K : Hid (∀ b, b = (if k = 1 then to4O p && decide (n = 128) else if k = 2 ∨ k = 3 then decide (n = 128) else if k = 4 then decide (0 < n ∧ n < 128) else false) → b = rightS k p n) := by
      intro b e; rw [e]; unfold rightS; rw [hs, Bool.true_and]
    clear hs
    by_cases h1 : k = 1
    · subst h1
      generalize ho : to4O p = o at *
      go_enter Tryz.func64, Tryz.ntmps64
      go_wp2_with fail
      refine (S.out _).mono ?_
      rintro e w' ⟨rfl, hb⟩
      obtain ⟨hc, hf⟩ := bcell hb
      have hz : w.heap.size < w'.heap.size := by have := hb.size; simp at this; omega
      go_wp2_with fail
      refine (T.out _).mono ?_
      rintro e w2 ⟨rfl, hb2⟩
      obtain ⟨hc2, hf2⟩ := bcell hb2
      have hz2 : w.heap.size < w2.heap.size := by have := hb2.size; omega
      cases o
      all_goals go_wp2
      all_goals go_ret
      all_goals refine F.out _ _ ((((Below.refl _ _).alloc (Nat.le_refl _) _).trans (hb.mono (by simp))).trans (hb2.mono (by omega))) (K.out _ ?_)
      all_goals (simp [*]; try exact beq_dec _ _)
    have e1 : (k == 1) = false := by simpa using h1
    by_cases h2 : k = 2
    · subst h2
      go_enter Tryz.func64, Tryz.ntmps64
      go_wp2_with fail
      refine (S.out _).mono ?_
      rintro e w' ⟨rfl, hb⟩
      obtain ⟨hc, hf⟩ := bcell hb
      have hz : w.heap.size < w'.heap.size := by have := hb.size; simp at this; omega
      go_wp2
      go_ret
      refine F.out _ _ (((Below.refl _ _).alloc (Nat.le_refl _) _).trans (hb.mono (by simp))) (K.out _ ?_)
      exact beq_dec _ _
    have e2 : (k == 2) = false := by simpa using h2
    by_cases h3 : k = 3
    · subst h3
      go_enter Tryz.func64, Tryz.ntmps64
      go_wp2_with fail
      refine (S.out _).mono ?_
      rintro e w' ⟨rfl, hb⟩
      obtain ⟨hc, hf⟩ := bcell hb
      have hz : w.heap.size < w'.heap.size := by have := hb.size; simp at this; omega
      go_wp2
      go_ret
      refine F.out _ _ (((Below.refl _ _).alloc (Nat.le_refl _) _).trans (hb.mono (by simp))) (K.out _ ?_)
      exact beq_dec _ _
    have e3 : (k == 3) = false := by simpa using h3
    by_cases h4 : k = 4
    · subst h4
      go_enter Tryz.func64, Tryz.ntmps64
      go_wp2_with fail
      refine (S.out _).mono ?_
      rintro e w' ⟨rfl, hb⟩
      obtain ⟨hc, hf⟩ := bcell hb
      have hz : w.heap.size < w'.heap.size := by have := hb.size; simp at this; omega
      go_wp2
      all_goals go_ret
      all_goals refine F.out _ _ (((Below.refl _ _).alloc (Nat.le_refl _) _).trans (hb.mono (by simp))) (K.out _ ?_)
      all_goals (simp [*]; try omega)
    · have e4 : (k == 4) = false := by simpa using h4
      go_enter Tryz.func64, Tryz.ntmps64
      go_wp2_with fail
      refine (S.out _).mono ?_
      rintro e w' ⟨rfl, hb⟩
      obtain ⟨hc, hf⟩ := bcell hb
      have hz : w.heap.size < w'.heap.size := by have := hb.size; simp at this; omega
      go_wp2
      go_ret
      refine F.out _ _ (((Below.refl _ _).alloc (Nat.le_refl _) _).trans (hb.mono (by simp))) (K.out _ ?_)
      rw [if_neg h1, if_neg (by simp [h2, h3]), if_neg h4]
end Go.Proofs.YtpldkgollhbolaaGreat
namespace Go.Proofs.YtpldkgollhbolaaGreat
open Go.RowKit Go.Joins
theorem toList_zero {s : ByteArray} : s.toList = [] ↔ s.size = 0 := by
  rw [ByteArray.toList_eq]
  constructor
  · intro h
    have h2 : s.data.toList.length = 0 := by rw [h]; rfl
    exact h2
  · intro h
    exact List.eq_nil_of_length_eq_zero h

set_option maxRecDepth 100000 in
set_option maxHeartbeats 2000000 in
theorem lease_any (x : Ls) (hx : Fits x.p) (w : World) :
    Calls Tryz.prog 63 #[Lv x] w (Gives (.bool (leaseS x)) w) := by
  have F : Hid (∀ (w' : World) (b : Bool), Below w.heap.size w w' → b = leaseS x → Gives (.bool (leaseS x)) w (.returned (.bool b)) w') := fun w' b h e => ⟨by rw [e], h⟩
  have S := hide (fun W => right_any x.kind hx x.n W)
  have D : Hid (leaseS x = (rightS x.kind x.p x.n && (decide (0 ≤ x.un ∧ x.un ≤ 1099511627776) && stateS x))) := hide rfl
  have E : Hid (stateS x = (if x.st = 1 then decide (x.cl.size ≠ 0 ∧ x.cl.size ≤ 130 ∧ (x.kind ≠ 1 ∨ x.ia = 0)) else if x.st = 2 then decide (x.cl.size = 0 ∧ x.ia = 0 ∧ x.kind ≠ 4) else false)) := hide rfl
  generalize hb0 : rightS x.kind x.p x.n = r at *
  generalize leaseS x = res at *
  generalize stateS x = stt at *
  obtain ⟨kind, p, n, st, cl, ia, un⟩ := x
  simp only at *
  clear hb0 hx
  cases r with
  | false =>
    have K := hide (show res = false by rw [D.out]; rfl)
    clear D E
    go_enter Tryz.func63, Tryz.ntmps63
    go_wp2_with fail
    refine (S.out _).mono ?_
    rintro e w' ⟨rfl, hb⟩
    obtain ⟨hc, hf⟩ := bcell hb
    have hz : w.heap.size < w'.heap.size := by have := hb.size; simp at this; omega
    go_wp2
    go_ret
    exact F.out _ _ (((Below.refl _ _).alloc (Nat.le_refl _) _).trans (hb.mono (by simp))) (by first | exact K.out.symm | (rw [K.out]; simp [*]))
  | true =>
    by_cases n1 : un < 0
    · have K := hide (show res = false by rw [D.out, decide_eq_false (by omega)]; rfl)
      clear D E
      go_enter Tryz.func63, Tryz.ntmps63
      go_wp2_with fail
      refine (S.out _).mono ?_
      rintro e w' ⟨rfl, hb⟩
      obtain ⟨hc, hf⟩ := bcell hb
      have hz : w.heap.size < w'.heap.size := by have := hb.size; simp at this; omega
      go_wp2
      go_ret
      exact F.out _ _ (((Below.refl _ _).alloc (Nat.le_refl _) _).trans (hb.mono (by simp))) (by first | exact K.out.symm | (rw [K.out]; simp [*]))
    by_cases n2 : 1099511627776 < un
    · have K := hide (show res = false by rw [D.out, decide_eq_false (by omega)]; rfl)
      clear D E
      go_enter Tryz.func63, Tryz.ntmps63
      go_wp2_with fail
      refine (S.out _).mono ?_
      rintro e w' ⟨rfl, hb⟩
      obtain ⟨hc, hf⟩ := bcell hb
      have hz : w.heap.size < w'.heap.size := by have := hb.size; simp at this; omega
      go_wp2
      go_ret
      exact F.out _ _ (((Below.refl _ _).alloc (Nat.le_refl _) _).trans (hb.mono (by simp))) (by first | exact K.out.symm | (rw [K.out]; simp [*]))
    have D2 : Hid (res = stt) := hide (by rw [D.out, decide_eq_true (by omega)]; rfl)
    clear D
    by_cases h1 : st = 1
    · subst h1
      have G : Hid (∀ b : Bool, decide (cl.size ≠ 0 ∧ cl.size ≤ 130 ∧ (kind ≠ 1 ∨ ia = 0)) = b → res = b) := hide (fun b e => by rw [← e, D2.out, E.out]; rfl)
      clear E D2
      by_cases hcl : cl.toList = []
      · have z1 := toList_zero.1 hcl
        have z2 : (cl.size : Int) = 0 := by omega
        have K := hide (G.out false (decide_eq_false (by omega)))
        clear G z1
        go_enter Tryz.func63, Tryz.ntmps63
        go_wp2_with fail
        refine (S.out _).mono ?_
        rintro e w' ⟨rfl, hb⟩
        obtain ⟨hc, hf⟩ := bcell hb
        have hz : w.heap.size < w'.heap.size := by have := hb.size; simp at this; omega
        go_wp2
        go_ret
        exact F.out _ _ (((Below.refl _ _).alloc (Nat.le_refl _) _).trans (hb.mono (by simp))) (by first | exact K.out.symm | (rw [K.out]; simp [*]))
      have hcz : cl.size ≠ 0 := mt toList_zero.2 hcl
      have hcz2 : 1 ≤ (cl.size : Int) := by omega
      by_cases h130 : (cl.size : Int) ≤ 130
      · by_cases hk : kind = 1
        · by_cases hi0 : ia = 0
          · have K := hide (G.out true (decide_eq_true (by omega)))
            clear G hcz
            subst hk hi0
            go_enter Tryz.func63, Tryz.ntmps63
            go_wp2_with fail
            refine (S.out _).mono ?_
            rintro e w' ⟨rfl, hb⟩
            obtain ⟨hc, hf⟩ := bcell hb
            have hz : w.heap.size < w'.heap.size := by have := hb.size; simp at this; omega
            go_wp2
            go_ret
            exact F.out _ _ (((Below.refl _ _).alloc (Nat.le_refl _) _).trans (hb.mono (by simp))) (by first | exact K.out.symm | (rw [K.out]; simp [*]))
          · have K := hide (G.out false (decide_eq_false (by omega)))
            clear G hcz
            have hi1 : ¬ (ia : Int) = 0 := by omega
            subst hk
            go_enter Tryz.func63, Tryz.ntmps63
            go_wp2_with fail
            refine (S.out _).mono ?_
            rintro e w' ⟨rfl, hb⟩
            obtain ⟨hc, hf⟩ := bcell hb
            have hz : w.heap.size < w'.heap.size := by have := hb.size; simp at this; omega
            go_wp2
            go_ret
            exact F.out _ _ (((Below.refl _ _).alloc (Nat.le_refl _) _).trans (hb.mono (by simp))) (by first | exact K.out.symm | (rw [K.out]; simp [*]))
        · have K := hide (G.out true (decide_eq_true (by omega)))
          clear G hcz
          go_enter Tryz.func63, Tryz.ntmps63
          go_wp2_with fail
          refine (S.out _).mono ?_
          rintro e w' ⟨rfl, hb⟩
          obtain ⟨hc, hf⟩ := bcell hb
          have hz : w.heap.size < w'.heap.size := by have := hb.size; simp at this; omega
          go_wp2
          go_ret
          exact F.out _ _ (((Below.refl _ _).alloc (Nat.le_refl _) _).trans (hb.mono (by simp))) (by first | exact K.out.symm | (rw [K.out]; simp [*]))
      · have K := hide (G.out false (decide_eq_false (by omega)))
        clear G hcz
        go_enter Tryz.func63, Tryz.ntmps63
        go_wp2_with fail
        refine (S.out _).mono ?_
        rintro e w' ⟨rfl, hb⟩
        obtain ⟨hc, hf⟩ := bcell hb
        have hz : w.heap.size < w'.heap.size := by have := hb.size; simp at this; omega
        go_wp2
        go_ret
        exact F.out _ _ (((Below.refl _ _).alloc (Nat.le_refl _) _).trans (hb.mono (by simp))) (by first | exact K.out.symm | (rw [K.out]; simp [*]))
    by_cases h2 : st = 2
    · subst h2
      have G : Hid (∀ b : Bool, decide (cl.size = 0 ∧ ia = 0 ∧ kind ≠ 4) = b → res = b) := hide (fun b e => by rw [← e, D2.out, E.out]; rfl)
      clear E D2
      by_cases hcl : cl.toList = []
      · have hcz : cl.size = 0 := toList_zero.1 hcl
        have K1 := hide (fun e => G.out false (decide_eq_false e))
        have K2 := hide (fun e => G.out true (decide_eq_true e))
        clear G
        by_cases hi0 : ia = 0
        · by_cases hk : kind = 4
          · have K := hide (K1.out (by omega))
            clear K1 K2 hcz
            subst hk hi0
            go_enter Tryz.func63, Tryz.ntmps63
            go_wp2_with fail
            refine (S.out _).mono ?_
            rintro e w' ⟨rfl, hb⟩
            obtain ⟨hc, hf⟩ := bcell hb
            have hz : w.heap.size < w'.heap.size := by have := hb.size; simp at this; omega
            go_wp2
            go_ret
            exact F.out _ _ (((Below.refl _ _).alloc (Nat.le_refl _) _).trans (hb.mono (by simp))) (by first | exact K.out.symm | (rw [K.out]; simp [*]))
          · have K := hide (K2.out (by omega))
            clear K1 K2 hcz
            subst hi0
            go_enter Tryz.func63, Tryz.ntmps63
            go_wp2_with fail
            refine (S.out _).mono ?_
            rintro e w' ⟨rfl, hb⟩
            obtain ⟨hc, hf⟩ := bcell hb
            have hz : w.heap.size < w'.heap.size := by have := hb.size; simp at this; omega
            go_wp2
            go_ret
            exact F.out _ _ (((Below.refl _ _).alloc (Nat.le_refl _) _).trans (hb.mono (by simp))) (by first | exact K.out.symm | (rw [K.out]; simp [*]))
        · have K := hide (K1.out (by omega))
          have hi1 : ¬ (ia : Int) = 0 := by omega
          clear K1 K2 hcz
          by_cases hk : kind = 4
          · subst hk
            go_enter Tryz.func63, Tryz.ntmps63
            go_wp2_with fail
            refine (S.out _).mono ?_
            rintro e w' ⟨rfl, hb⟩
            obtain ⟨hc, hf⟩ := bcell hb
            have hz : w.heap.size < w'.heap.size := by have := hb.size; simp at this; omega
            go_wp2
            go_ret
            exact F.out _ _ (((Below.refl _ _).alloc (Nat.le_refl _) _).trans (hb.mono (by simp))) (by first | exact K.out.symm | (rw [K.out]; simp [*]))
          ·
            go_enter Tryz.func63, Tryz.ntmps63
            go_wp2_with fail
            refine (S.out _).mono ?_
            rintro e w' ⟨rfl, hb⟩
            obtain ⟨hc, hf⟩ := bcell hb
            have hz : w.heap.size < w'.heap.size := by have := hb.size; simp at this; omega
            go_wp2
            go_ret
            exact F.out _ _ (((Below.refl _ _).alloc (Nat.le_refl _) _).trans (hb.mono (by simp))) (by first | exact K.out.symm | (rw [K.out]; simp [*]))
      · have hcz : cl.size ≠ 0 := mt toList_zero.2 hcl
        have K := hide (G.out false (decide_eq_false (by omega)))
        clear G hcz
        by_cases hk : kind = 4
        · subst hk
          go_enter Tryz.func63, Tryz.ntmps63
          go_wp2_with fail
          refine (S.out _).mono ?_
          rintro e w' ⟨rfl, hb⟩
          obtain ⟨hc, hf⟩ := bcell hb
          have hz : w.heap.size < w'.heap.size := by have := hb.size; simp at this; omega
          go_wp2
          go_ret
          exact F.out _ _ (((Below.refl _ _).alloc (Nat.le_refl _) _).trans (hb.mono (by simp))) (by first | exact K.out.symm | (rw [K.out]; simp [*]))
        ·
          go_enter Tryz.func63, Tryz.ntmps63
          go_wp2_with fail
          refine (S.out _).mono ?_
          rintro e w' ⟨rfl, hb⟩
          obtain ⟨hc, hf⟩ := bcell hb
          have hz : w.heap.size < w'.heap.size := by have := hb.size; simp at this; omega
          go_wp2
          go_ret
          exact F.out _ _ (((Below.refl _ _).alloc (Nat.le_refl _) _).trans (hb.mono (by simp))) (by first | exact K.out.symm | (rw [K.out]; simp [*]))
    have K := hide (show res = false by rw [D2.out, E.out, if_neg h1, if_neg h2])
    clear E D2
    go_enter Tryz.func63, Tryz.ntmps63
    go_wp2_with fail
    refine (S.out _).mono ?_
    rintro e w' ⟨rfl, hb⟩
    obtain ⟨hc, hf⟩ := bcell hb
    have hz : w.heap.size < w'.heap.size := by have := hb.size; simp at this; omega
    go_wp2
    go_ret
    exact F.out _ _ (((Below.refl _ _).alloc (Nat.le_refl _) _).trans (hb.mono (by simp))) (by first | exact K.out.symm | (rw [K.out]; simp [*]))

set_option maxRecDepth 100000 in
set_option maxHeartbeats 2000000 in
theorem change_any (c : Ch) (hc : Fits c.l.p) (w : World) :
    Calls Tryz.prog 45 #[Cv c] w (Gives (.bool (changeS c)) w) := by
  have F : Hid (∀ (w' : World) (b : Bool), Below w.heap.size w w' → b = changeS c → Gives (.bool (changeS c)) w (.returned (.bool b)) w') := fun w' b h e => ⟨by rw [e], h⟩
  have R := hide (fun W => right_any c.l.kind hc c.l.n W)
  have S := hide (fun W => lease_any c.l hc W)
  have D : Hid (changeS c = if c.gone = true then rightS c.l.kind c.l.p c.l.n && bareS c.l else leaseS c.l) := hide rfl
  have E : Hid (bareS c.l = decide (c.l.st = 0 ∧ c.l.cl.size = 0 ∧ c.l.ia = 0 ∧ c.l.un = 0)) := hide rfl
  generalize rightS c.l.kind c.l.p c.l.n = r at *
  generalize bareS c.l = bare at *
  generalize leaseS c.l = ls at *
  generalize changeS c = res at *
  obtain ⟨gone, kind, p, n, st, cl, ia, un⟩ := c
  simp only at *
  clear hc
  cases gone with
  | false =>
    have K := hide (show res = ls by rw [D.out]; rfl)
    clear D E R
    go_enter Tryz.func45, Tryz.ntmps45
    go_wp2_with fail
    refine (S.out _).mono ?_
    rintro e w' ⟨rfl, hb⟩
    obtain ⟨hc, hf⟩ := bcell hb
    have hz : w.heap.size < w'.heap.size := by have := hb.size; simp at this; omega
    go_wp2
    go_ret
    exact F.out _ _ ((((Below.refl _ _).alloc (Nat.le_refl _) _).alloc (by simp) _).trans (hb.mono (by simp; omega))) (by first | exact K.out.symm | (rw [K.out]; simp [*]))
  | true =>
    have D2 := hide (show res = (r && bare) by rw [D.out]; rfl)
    clear D S
    cases r with
    | false =>
      have K := hide (show res = false by rw [D2.out]; rfl)
      clear D2 E
      go_enter Tryz.func45, Tryz.ntmps45
      go_wp2_with fail
      refine (R.out _).mono ?_
      rintro e w' ⟨rfl, hb⟩
      obtain ⟨hc, hf⟩ := bcell hb
      have hz : w.heap.size < w'.heap.size := by have := hb.size; simp at this; omega
      go_wp2
      go_ret
      exact F.out _ _ ((((Below.refl _ _).alloc (Nat.le_refl _) _).alloc (by simp) _).trans (hb.mono (by simp; omega))) (by first | exact K.out.symm | (rw [K.out]; simp [*]))
    | true =>
      have G : Hid (∀ b : Bool, decide (st = 0 ∧ cl.size = 0 ∧ ia = 0 ∧ un = 0) = b → res = b) := hide (fun b e => by rw [← e, D2.out, E.out]; rfl)
      clear D2 E
      by_cases h1 : st = 0
      · by_cases h2 : cl.toList = []
        · have hcz : cl.size = 0 := toList_zero.1 h2
          by_cases h3 : ia = 0
          · by_cases h4 : un = 0
            · have K := hide (G.out true (decide_eq_true (by omega)))
              clear G hcz
              subst h1 h3 h4
              go_enter Tryz.func45, Tryz.ntmps45
              go_wp2_with fail
              refine (R.out _).mono ?_
              rintro e w' ⟨rfl, hb⟩
              obtain ⟨hc, hf⟩ := bcell hb
              have hz : w.heap.size < w'.heap.size := by have := hb.size; simp at this; omega
              go_wp2
              go_ret
              exact F.out _ _ ((((Below.refl _ _).alloc (Nat.le_refl _) _).alloc (by simp) _).trans (hb.mono (by simp; omega))) (by first | exact K.out.symm | (rw [K.out]; simp [*]))
            · have K := hide (G.out false (decide_eq_false (by omega)))
              clear G hcz
              subst h1 h3
              go_enter Tryz.func45, Tryz.ntmps45
              go_wp2_with fail
              refine (R.out _).mono ?_
              rintro e w' ⟨rfl, hb⟩
              obtain ⟨hc, hf⟩ := bcell hb
              have hz : w.heap.size < w'.heap.size := by have := hb.size; simp at this; omega
              go_wp2
              go_ret
              exact F.out _ _ ((((Below.refl _ _).alloc (Nat.le_refl _) _).alloc (by simp) _).trans (hb.mono (by simp; omega))) (by first | exact K.out.symm | (rw [K.out]; simp [*]))
          · have K := hide (G.out false (decide_eq_false (by omega)))
            have h5 : ¬ (ia : Int) = 0 := by omega
            clear G hcz
            subst h1
            go_enter Tryz.func45, Tryz.ntmps45
            go_wp2_with fail
            refine (R.out _).mono ?_
            rintro e w' ⟨rfl, hb⟩
            obtain ⟨hc, hf⟩ := bcell hb
            have hz : w.heap.size < w'.heap.size := by have := hb.size; simp at this; omega
            go_wp2
            go_ret
            exact F.out _ _ ((((Below.refl _ _).alloc (Nat.le_refl _) _).alloc (by simp) _).trans (hb.mono (by simp; omega))) (by first | exact K.out.symm | (rw [K.out]; simp [*]))
        · have hcz : cl.size ≠ 0 := mt toList_zero.2 h2
          have K := hide (G.out false (decide_eq_false (by omega)))
          clear G hcz
          subst h1
          go_enter Tryz.func45, Tryz.ntmps45
          go_wp2_with fail
          refine (R.out _).mono ?_
          rintro e w' ⟨rfl, hb⟩
          obtain ⟨hc, hf⟩ := bcell hb
          have hz : w.heap.size < w'.heap.size := by have := hb.size; simp at this; omega
          go_wp2
          go_ret
          exact F.out _ _ ((((Below.refl _ _).alloc (Nat.le_refl _) _).alloc (by simp) _).trans (hb.mono (by simp; omega))) (by first | exact K.out.symm | (rw [K.out]; simp [*]))
      · have K := hide (G.out false (decide_eq_false (by omega)))
        clear G
        go_enter Tryz.func45, Tryz.ntmps45
        go_wp2_with fail
        refine (R.out _).mono ?_
        rintro e w' ⟨rfl, hb⟩
        obtain ⟨hc, hf⟩ := bcell hb
        have hz : w.heap.size < w'.heap.size := by have := hb.size; simp at this; omega
        go_wp2
        go_ret
        exact F.out _ _ ((((Below.refl _ _).alloc (Nat.le_refl _) _).alloc (by simp) _).trans (hb.mono (by simp; omega))) (by first | exact K.out.symm | (rw [K.out]; simp [*]))
end Go.Proofs.YtpldkgollhbolaaGreat
namespace Go.Proofs.YtpldkgollhbolaaGreat
open Go.RowKit Go.Joins

set_option maxHeartbeats 400000 in
theorem compareI_any (x y : Int) (w : World) :
    Calls Tryz.prog 42 #[.int .i64 x, .int .i64 y] w (Same (.int .i64 (cmpI x y)) w) := by
  rcases Int.lt_trichotomy x y with h | h | h
  · have H := hide (cmpI_lt h)
    go_enter Tryz.func42, Tryz.ntmps42
    go_wp2
    go_ret
    exact ⟨congrArg Ending.returned (i64_eq H.out.symm), rfl⟩
  · subst h
    have H := hide (cmpI_eq x)
    go_enter Tryz.func42, Tryz.ntmps42
    go_wp2
    go_ret
    exact ⟨congrArg Ending.returned (i64_eq H.out.symm), rfl⟩
  · have H := hide (cmpI_gt h)
    go_enter Tryz.func42, Tryz.ntmps42
    go_wp2
    go_ret
    exact ⟨congrArg Ending.returned (i64_eq H.out.symm), rfl⟩

def or3 (x y z : Int) : Int := if x ≠ 0 then x else if y ≠ 0 then y else z
set_option maxRecDepth 100000 in
set_option maxHeartbeats 1000000 in
theorem or_any (b : Nat) (x y z : Int) (w : World) (h0 : w.cell? ⟨b, 0, none⟩ = some (.int .i64 x)) (h1 : w.cell? ⟨b, 1, none⟩ = some (.int .i64 y)) (h2 : w.cell? ⟨b, 2, none⟩ = some (.int .i64 z)) :
    Calls Tryz.prog 41 #[.slice (some ⟨b, 0, none⟩) 3 3] w (Same (.int .i64 (or3 x y z)) w) := by
  by_cases hx : x = 0
  · subst hx
    by_cases hy : y = 0
    · subst hy
      by_cases hz : z = 0
      · subst hz
        go_enter Tryz.func41, Tryz.ntmps41
        go_wp2_with fail
        go_loopw [8] (fun i wr => ∃ k : Nat, k ≤ 3 ∧ i = .int .i64 k ∧ wr = w) (fun i _ => 3 - (intOf i).toNat)
        case atStart => exact ⟨0, by omega, rfl, rfl⟩
        case round =>
          obtain ⟨k, hk, rfl, rfl⟩ := hrel
          have : k = 0 ∨ k = 1 ∨ k = 2 ∨ k = 3 := by omega
          rcases this with rfl | rfl | rfl | rfl
          · go_wp2
            go_roundw
            case rel => exact ⟨1, by omega, by go_num, by trivial⟩
            case measure => simp [intOf]
          · go_wp2
            go_roundw
            case rel => exact ⟨2, by omega, by go_num, by trivial⟩
            case measure => simp [intOf]
          · go_wp2
            go_roundw
            case rel => exact ⟨3, by omega, by go_num, by trivial⟩
            case measure => simp [intOf]
          · go_wp2
            go_ret
            exact ⟨rfl, rfl⟩
      · have K := hide (show or3 0 0 z = z from rfl)
        go_enter Tryz.func41, Tryz.ntmps41
        go_wp2_with fail
        go_loopw [8] (fun i wr => ∃ k : Nat, k ≤ 2 ∧ i = .int .i64 k ∧ wr = w) (fun i _ => 3 - (intOf i).toNat)
        case atStart => exact ⟨0, by omega, rfl, rfl⟩
        case round =>
          obtain ⟨k, hk, rfl, rfl⟩ := hrel
          have : k = 0 ∨ k = 1 ∨ k = 2 := by omega
          rcases this with rfl | rfl | rfl
          · go_wp2
            go_roundw
            case rel => exact ⟨1, by omega, by go_num, by trivial⟩
            case measure => simp [intOf]
          · go_wp2
            go_roundw
            case rel => exact ⟨2, by omega, by go_num, by trivial⟩
            case measure => simp [intOf]
          · go_wp2
            go_ret
            exact ⟨congrArg Ending.returned (i64_eq K.out.symm), rfl⟩
    · have K := hide (show or3 0 y z = y by unfold or3; rw [if_neg (by omega), if_pos hy])
      go_enter Tryz.func41, Tryz.ntmps41
      go_wp2_with fail
      go_loopw [8] (fun i wr => ∃ k : Nat, k ≤ 1 ∧ i = .int .i64 k ∧ wr = w) (fun i _ => 3 - (intOf i).toNat)
      case atStart => exact ⟨0, by omega, rfl, rfl⟩
      case round =>
        obtain ⟨k, hk, rfl, rfl⟩ := hrel
        have : k = 0 ∨ k = 1 := by omega
        rcases this with rfl | rfl
        · go_wp2
          go_roundw
          case rel => exact ⟨1, by omega, by go_num, by trivial⟩
          case measure => simp [intOf]
        · go_wp2
          go_ret
          exact ⟨congrArg Ending.returned (i64_eq K.out.symm), rfl⟩
  · have K := hide (show or3 x y z = x by unfold or3; rw [if_pos hx])
    go_enter Tryz.func41, Tryz.ntmps41
    go_wp2_with fail
    go_loopw [8] (fun i wr => i = .int .i64 0 ∧ wr = w) (fun i _ => 3 - (intOf i).toNat)
    case atStart => exact ⟨rfl, rfl⟩
    case round =>
      obtain ⟨rfl, rfl⟩ := hrel
      go_wp2
      go_ret
      exact ⟨congrArg Ending.returned (i64_eq K.out.symm), rfl⟩

def PV (g p : Nat) (n : Int) (W : World) : Prop := W.cell? ⟨g, 0, none⟩ = some (.int .u64 (hi p : Nat)) ∧ W.cell? ⟨g, 1, none⟩ = some (.int .u64 (lo p : Nat)) ∧ W.cell? ⟨g, 2, none⟩ = some (.int .i64 n)
theorem PV.step {g p : Nat} {n : Int} {W w2 : World} (h : PV g p n W) (hb : Below W.heap.size W w2) : PV g p n w2 := ⟨keep_cell hb h.1, keep_cell hb h.2.1, keep_cell hb h.2.2⟩
theorem pv_new (V : World) (p : Nat) (n : Int) (t : TypeId) : PV V.heap.size p n (V.alloc (.cells #[.int .u64 (hi p : Nat), .int .u64 (lo p : Nat), .int .i64 n] t)) := by
  refine ⟨?_, ?_, ?_⟩ <;> simp [go_sem]
def PB (w : World) (p : Nat) (n : Int) (q : Nat) (m : Int) (W : World) : Prop := Below w.heap.size w W ∧ PV w.heap.size p n W ∧ PV (w.heap.size + 1) q m W
theorem PB.step {w : World} {p : Nat} {n : Int} {q : Nat} {m : Int} {W w2 : World} (h : PB w p n q m W) (hb : Below W.heap.size W w2) : PB w p n q m w2 :=
  ⟨h.1.trans (hb.mono h.1.size), h.2.1.step hb, h.2.2.step hb⟩
theorem pb_new (w : World) (p : Nat) (n : Int) (q : Nat) (m : Int) (t : TypeId) : PB w p n q m ((w.alloc (.cells #[.int .u64 (hi p : Nat), .int .u64 (lo p : Nat), .int .i64 n] t)).alloc (.cells #[.int .u64 (hi q : Nat), .int .u64 (lo q : Nat), .int .i64 m] t)) := by
  refine ⟨(below_alloc _ _).trans ((below_alloc _ _).mono (by simp)), (pv_new w p n t).step (below_alloc _ _), ?_⟩
  have := pv_new (w.alloc (.cells #[.int .u64 (hi p : Nat), .int .u64 (lo p : Nat), .int .i64 n] t)) q m t
  simpa using this
theorem PB.all {w : World} {p : Nat} {n : Int} {q : Nat} {m : Int} {W : World} (h : PB w p n q m W) : PB w p n q m W ∧ W.cell? ⟨w.heap.size, 0, none⟩ = some (.int .u64 (hi p : Nat)) ∧ W.cell? ⟨w.heap.size, 1, none⟩ = some (.int .u64 (lo p : Nat)) ∧ W.cell? ⟨w.heap.size, 2, none⟩ = some (.int .i64 n) ∧
    W.cell? ⟨w.heap.size + 1, 0, none⟩ = some (.int .u64 (hi q : Nat)) ∧ W.cell? ⟨w.heap.size + 1, 1, none⟩ = some (.int .u64 (lo q : Nat)) ∧ W.cell? ⟨w.heap.size + 1, 2, none⟩ = some (.int .i64 m) := ⟨h, h.2.1.1, h.2.1.2.1, h.2.1.2.2, h.2.2.1, h.2.2.2.1, h.2.2.2.2⟩
theorem cmp_or (a b c : Int) : or3 a b c = if a ≠ 0 then a else if b ≠ 0 then b else c := rfl

set_option maxRecDepth 100000 in
set_option maxHeartbeats 2000000 in
theorem compare3_any (k : Int) (p : Nat) (n : Int) (j : Int) (q : Nat) (m : Int) (w : World) :
    Calls Tryz.prog 62 #[.int .i64 k, Pv p n, .int .i64 j, Pv q m] w (Gives (.int .i64 (compareS k p n j q m)) w) := by
  have R := hide (show or3 (cmpI k j) (cmpS p q) (cmpI n m) = compareS k p n j q m from rfl)
  generalize compareS k p n j q m = res at *
  have H := pb_new w p n q m 27
  go_enter Tryz.func62, Tryz.ntmps62
  go_wp2_with fail
  generalize (w.alloc (.cells #[.int .u64 (hi p : Nat), .int .u64 (lo p : Nat), .int .i64 n] 27)).alloc (.cells #[.int .u64 (hi q : Nat), .int .u64 (lo q : Nat), .int .i64 m] 27) = V at *
  obtain ⟨_, ⟨a0, a1, a2⟩, b0, b1, b2⟩ := id H
  go_region_held3 (fun W => PB w p n q m W ∧ W.cell? ⟨w.heap.size, 0, none⟩ = some (.int .u64 (hi p : Nat)) ∧ W.cell? ⟨w.heap.size, 1, none⟩ = some (.int .u64 (lo p : Nat)) ∧ W.cell? ⟨w.heap.size, 2, none⟩ = some (.int .i64 n) ∧
      W.cell? ⟨w.heap.size + 1, 0, none⟩ = some (.int .u64 (hi q : Nat)) ∧ W.cell? ⟨w.heap.size + 1, 1, none⟩ = some (.int .u64 (lo q : Nat)) ∧ W.cell? ⟨w.heap.size + 1, 2, none⟩ = some (.int .i64 m))
    (first
      | exact (H.step (below_drew _)).all
      | exact H2.all
      | exact (H2.step (below_alloc _ _)).all)
    (first
      | (go_at_call 42; refine (compareI_any _ _ _).mono ?_; rintro e w2 ⟨rfl, rfl⟩)
      | (go_at_call 86; refine (cmp_any p q _).mono ?_; rintro e w2 ⟨rfl, hb2⟩; have H2 := (H.step (below_drew _)).step hb2)
      | (go_at_call 41; refine (or_any _ (cmpI k j) (cmpS p q) (cmpI n m) _ (by simp [go_sem]) (by simp [go_sem]) (by simp [go_sem])).mono ?_; rintro e w5 ⟨rfl, rfl⟩))
  go_wp2
  go_ret
  exact ⟨congrArg Ending.returned (i64_eq R.out), (H2.step (below_alloc _ _)).1⟩

set_option maxRecDepth 100000 in
set_option maxHeartbeats 2000000 in
theorem meet_any (k : Int) {p : Nat} (hp : Fits p) (n : Int) (j : Int) {q : Nat} (hq : Fits q) (m : Int) (w : World) :
    Calls Tryz.prog 56 #[.int .i64 k, Pv p n, .int .i64 j, Pv q m] w (Gives (.bool (meetS k p n j q m)) w) := by
  have R1 := hide (fun W => right_any k hp n W)
  have R2 := hide (fun W => right_any j hq m W)
  have MM := hide (fun W => meets_any hp hq n m W)
  have D : Hid (meetS k p n j q m = ((rightS k p n && rightS j q m) && (decide (k = 1 ↔ j = 1) && meetsS p n q m))) := hide rfl
  generalize rightS k p n = r1 at *
  generalize rightS j q m = r2 at *
  generalize meetsS p n q m = mm at *
  generalize meetS k p n j q m = res at *
  have H := pb_new w p n q m 27
  cases r1 with
  | false =>
    have K := hide (show res = false by rw [D.out]; rfl)
    clear D
    go_enter Tryz.func56, Tryz.ntmps56
    go_wp2_with fail
    generalize (w.alloc (.cells #[.int .u64 (hi p : Nat), .int .u64 (lo p : Nat), .int .i64 n] 27)).alloc (.cells #[.int .u64 (hi q : Nat), .int .u64 (lo q : Nat), .int .i64 m] 27) = V at *
    obtain ⟨_, ⟨a0, a1, a2⟩, b0, b1, b2⟩ := id H
    go_wp2_with fail
    refine (R1.out _).mono ?_
    rintro e w1 ⟨rfl, hb1⟩
    have H1 := H.step hb1
    clear a0 a1 a2 b0 b1 b2
    go_wp2
    go_ret
    exact ⟨congrArg Ending.returned (bool_eq K.out.symm), H1.1⟩
  | true =>
    cases r2 with
    | false =>
      have K := hide (show res = false by rw [D.out]; rfl)
      clear D
      go_enter Tryz.func56, Tryz.ntmps56
      go_wp2_with fail
      generalize (w.alloc (.cells #[.int .u64 (hi p : Nat), .int .u64 (lo p : Nat), .int .i64 n] 27)).alloc (.cells #[.int .u64 (hi q : Nat), .int .u64 (lo q : Nat), .int .i64 m] 27) = V at *
      obtain ⟨_, ⟨a0, a1, a2⟩, b0, b1, b2⟩ := id H
      go_wp2_with fail
      refine (R1.out _).mono ?_
      rintro e w1 ⟨rfl, hb1⟩
      have H1 := H.step hb1
      clear a0 a1 a2 b0 b1 b2
      obtain ⟨_, ⟨a0, a1, a2⟩, b0, b1, b2⟩ := id H1
      go_wp2_with fail
      refine (R2.out _).mono ?_
      rintro e w2 ⟨rfl, hb2⟩
      have H2 := H1.step hb2
      clear a0 a1 a2 b0 b1 b2
      go_wp2
      go_ret
      exact ⟨congrArg Ending.returned (bool_eq K.out.symm), H2.1⟩
    | true =>
      have D2 := hide (show res = (decide (k = 1 ↔ j = 1) && mm) by rw [D.out]; rfl)
      clear D
      by_cases hkj : k = 1 ↔ j = 1
      · have K := hide (show res = mm by rw [D2.out, decide_eq_true hkj]; rfl)
        have E : (k == 1) = (j == 1) := by
          rw [Bool.eq_iff_iff, beq_iff_eq, beq_iff_eq]; exact hkj
        clear D2
        go_enter Tryz.func56, Tryz.ntmps56
        go_wp2_with fail
        generalize (w.alloc (.cells #[.int .u64 (hi p : Nat), .int .u64 (lo p : Nat), .int .i64 n] 27)).alloc (.cells #[.int .u64 (hi q : Nat), .int .u64 (lo q : Nat), .int .i64 m] 27) = V at *
        obtain ⟨_, ⟨a0, a1, a2⟩, b0, b1, b2⟩ := id H
        go_wp2_with fail
        refine (R1.out _).mono ?_
        rintro e w1 ⟨rfl, hb1⟩
        have H1 := H.step hb1
        clear a0 a1 a2 b0 b1 b2
        obtain ⟨_, ⟨a0, a1, a2⟩, b0, b1, b2⟩ := id H1
        go_wp2_with fail
        refine (R2.out _).mono ?_
        rintro e w2 ⟨rfl, hb2⟩
        have H2 := H1.step hb2
        clear a0 a1 a2 b0 b1 b2
        obtain ⟨_, ⟨a0, a1, a2⟩, b0, b1, b2⟩ := id H2
        go_wp2_with fail
        refine (MM.out _).mono ?_
        rintro e w3 ⟨rfl, hb3⟩
        have H3 := H2.step hb3
        clear a0 a1 a2 b0 b1 b2
        go_wp2
        go_ret
        exact ⟨congrArg Ending.returned (bool_eq K.out.symm), H3.1⟩
      · have K := hide (show res = false by rw [D2.out, decide_eq_false hkj]; rfl)
        have E : ¬ (k == 1) = (j == 1) := by
          rw [Bool.eq_iff_iff, beq_iff_eq, beq_iff_eq]; exact hkj
        clear D2
        go_enter Tryz.func56, Tryz.ntmps56
        go_wp2_with fail
        generalize (w.alloc (.cells #[.int .u64 (hi p : Nat), .int .u64 (lo p : Nat), .int .i64 n] 27)).alloc (.cells #[.int .u64 (hi q : Nat), .int .u64 (lo q : Nat), .int .i64 m] 27) = V at *
        obtain ⟨_, ⟨a0, a1, a2⟩, b0, b1, b2⟩ := id H
        go_wp2_with fail
        refine (R1.out _).mono ?_
        rintro e w1 ⟨rfl, hb1⟩
        have H1 := H.step hb1
        clear a0 a1 a2 b0 b1 b2
        obtain ⟨_, ⟨a0, a1, a2⟩, b0, b1, b2⟩ := id H1
        go_wp2_with fail
        refine (R2.out _).mono ?_
        rintro e w2 ⟨rfl, hb2⟩
        have H2 := H1.step hb2
        clear a0 a1 a2 b0 b1 b2
        obtain ⟨_, ⟨a0, a1, a2⟩, b0, b1, b2⟩ := id H2
        go_wp2
        go_ret
        exact ⟨congrArg Ending.returned (bool_eq K.out.symm), H2.1⟩
end Go.Proofs.YtpldkgollhbolaaGreat
