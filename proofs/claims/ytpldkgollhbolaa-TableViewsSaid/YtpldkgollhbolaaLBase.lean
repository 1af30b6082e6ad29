/-
  Basics of the walks over lease and table: what a call gives, memory kept over calls; contracts of addr's calls (Cmp, To4, Clip, Has, Sound, Covers, Meets) and what they call. Conditions: a word is a word of 64 bits, an int is an int of 64 bits (every value of the types is such).
-/
import Derived.Test.YtpldkgollhbolaaProg
import Derived.Test.YtpldkgollhbolaaAddrP
import Derived.Test.YtpldkgollhbolaaAddrT
import Derived.Test.YtpldkgollhbolaaAddrNestM
import Derived.WalkKit
import Derived.WalkSpells
import Derived.WalkLawsBesides
import Derived.Laws.Externs
import Derived.RegionTactic
import Derived.ChangeAlike
import Derived.Lib.Strings
import Derived.Lib.Slices
import Derived.Lib.Small
import Derived.Lib.Walk
import Derived.Lib.BitFns
import Derived.Lib.SmallJoins
import Derived.ProofKit
import Derived.BigQuiet
import Derived.Deep.QuietTactic
import Derived.Laws.CopyOwn
import Derived.Laws.IdiomStrings
import Derived.Deep.AppendLies
import Derived.ArgAppend
import Derived.Laws.OwnMore
import Derived.Deep.RegionWith
import Derived.Deep.RegionHeld3
namespace Go.Proofs.Ytpldkgollhbolaa
open Go.RowKit Go.Joins

abbrev A (a : Nat) : Value := .agg #[.int .u64 (hi a : Nat), .int .u64 (lo a : Nat)]
/-- a call with this one result, nothing old changed -/
def Gives (v : Value) (w : World) (e : Ending) (w' : World) : Prop := e = .returned v ∧ Below w.heap.size w w'
/-- a call with this one result, nothing touched at all -/
def Same (v : Value) (w : World) (e : Ending) (w' : World) : Prop := e = .returned v ∧ w = w'
theorem hide {p : Prop} (h : p) : Hid p := h
theorem bool_eq {a b : Bool} (h : a = b) : Value.bool a = .bool b := by rw [h]
theorem tup2 {x x' y y' : Value} (h : x = x') (k : y = y') : Value.tuple #[x, y] = .tuple #[x', y'] := by rw [h, k]
theorem tup3 {x x' y y' z z' : Value} (h : x = x') (k : y = y') (l : z = z') : Value.tuple #[x, y, z] = .tuple #[x', y', z'] := by rw [h, k, l]
theorem bcell {W w1 : World} (hb : Below W.heap.size W w1) : (∀ b o, b < W.heap.size → w1.cell? ⟨b, o, none⟩ = W.cell? ⟨b, o, none⟩) ∧ (∀ b o, b < W.heap.size → w1.frozen? ⟨b, o, none⟩ = W.frozen? ⟨b, o, none⟩) :=
  ⟨fun b o h => hb.cell (p := ⟨b, o, none⟩) h, fun b o h => hb.frozen (p := ⟨b, o, none⟩) h⟩
theorem keep_cell {W w2 : World} {p : Go.Addr} {v : Value} (hb : Below W.heap.size W w2) (h : W.cell? p = some v) : w2.cell? p = some v := by
  rw [hb.cell (World.block_lt_of_cell? W p h), h]
theorem keep_free {W w2 : World} {p : Go.Addr} (hb : Below W.heap.size W w2) (hl : p.block < W.heap.size) (h : W.frozen? p = false) : w2.frozen? p = false := by
  rw [hb.frozen hl, h]
theorem below_alloc (W : World) (o : Obj) : Below W.heap.size W (W.alloc o) := (Below.refl _ _).alloc (Nat.le_refl _) _
theorem below_drew (W : World) : Below W.heap.size W W.drew := (Below.refl _ _).drew
theorem below_drewN (W : World) (n : Nat) : Below W.heap.size W (W.drewN n) := ⟨rfl, rfl, rfl, Nat.le_refl _, fun _ _ => rfl⟩
theorem chain {w v v' : World} (h : Below w.heap.size w v) (k : Below v.heap.size v v') : Below w.heap.size w v' := h.trans (k.mono h.size)
/-- a text of bytes -/
abbrev St (l : List UInt8) : Value := .string ⟨l.toArray⟩
theorem st_eq {a b : List UInt8} (h : a = b) : St a = St b := by rw [h]
/-- an int of 64 bits -/
def I64 (a : Int) : Prop := -9223372036854775808 ≤ a ∧ a ≤ 9223372036854775807
theorem agg2 {x x' y y' : Int} (h : x = x') (k : y = y') : Value.agg #[.int .u64 x, .int .u64 y] = .agg #[.int .u64 x', .int .u64 y'] := by rw [h, k]
theorem i64_eq {a b : Int} (h : a = b) : Value.int .i64 a = .int .i64 b := by rw [h]
theorem u64_eq {a b : Int} (h : a = b) : Value.int .u64 a = .int .u64 b := by rw [h]
theorem cmpS_lt {a b : Nat} (h : a < b) : cmpS a b = -1 := by unfold cmpS; rw [if_pos h]
theorem cmpS_gt {a b : Nat} (h : b < a) : cmpS a b = 1 := by unfold cmpS; rw [if_neg (by omega), if_pos h]
theorem cmpS_eq {a b : Nat} (h : a = b) : cmpS a b = 0 := by unfold cmpS; rw [if_neg (by omega), if_neg (by omega)]
set_option maxHeartbeats 400000 in
theorem compare_any (x y : Nat) (w : World) :
    Calls Try.prog 47 #[.int .u64 (x : Nat), .int .u64 (y : Nat)] w (Gives (.int .i64 (cmpS x y)) w) := by
  rcases Nat.lt_trichotomy x y with h | h | h
  · have e := cmpS_lt h
    have H := hide e
    clear e
    go_enter Try.func47, Try.ntmps47
    go_wp2
    go_ret
    exact ⟨congrArg Ending.returned (i64_eq H.out.symm), Below.refl _ _⟩
  · subst h
    have H := hide (cmpS_eq (rfl : x = x))
    go_enter Try.func47, Try.ntmps47
    go_wp2
    go_ret
    exact ⟨congrArg Ending.returned (i64_eq H.out.symm), Below.refl _ _⟩
  · have e := cmpS_gt h
    have H := hide e
    clear e
    go_enter Try.func47, Try.ntmps47
    go_wp2
    go_ret
    exact ⟨congrArg Ending.returned (i64_eq H.out.symm), Below.refl _ _⟩
set_option maxHeartbeats 400000 in
theorem cmp_any (a b : Nat) (w : World) :
    Calls Try.prog 30 #[A a, A b] w (Gives (.int .i64 (cmpS a b)) w) := by
  by_cases h : hi a = hi b
  · have H := hide (cmp_lo h)
    have K : (((hi a : Nat) : Int) != ((hi b : Nat) : Int)) = false := by rw [h]; simp
    clear h
    go_enter Try.func30, Try.ntmps30
    go_wp2_with (go_at_call 47; refine (compare_any _ _ _).mono ?_; rintro e w' ⟨rfl, hb⟩)
    go_ret
    exact ⟨congrArg Ending.returned (i64_eq H.out), (((Below.refl _ _).alloc (Nat.le_refl _) _).alloc (by simp) _).trans (hb.mono (by simp; omega))⟩
  · have H := hide (cmp_hi h)
    have K : (((hi a : Nat) : Int) != ((hi b : Nat) : Int)) = true := by simp; omega
    clear h
    go_enter Try.func30, Try.ntmps30
    go_wp2_with (go_at_call 47; refine (compare_any _ _ _).mono ?_; rintro e w' ⟨rfl, hb⟩)
    go_ret
    exact ⟨congrArg Ending.returned (i64_eq H.out), (((Below.refl _ _).alloc (Nat.le_refl _) _).alloc (by simp) _).trans (hb.mono (by simp; omega))⟩
theorem wrap_sub {n : Int} (h : 64 ≤ n) (h2 : n ≤ 9223372036854775807) : wrap64 (n - 64) = n - 64 := IntWalk.wrap64_in _ ⟨by omega, by omega⟩
theorem div_big {x : Nat} (h : x < 18446744073709551616) (k : Nat) : (x : Int) / 2 ^ min (k + 64) 64 = 0 := by
  rw [show min (k + 64) 64 = 64 by omega, cast_div, Nat.div_eq_of_lt h]
  rfl
/-- an int that is not beyond the greatest one -/
def I63 (n : Int) : Prop := n ≤ 9223372036854775807
theorem shr_far {x : Nat} (hx : x < 18446744073709551616) (n : Int) (h : 128 ≤ n) (h2 : I63 n) (w : World) :
    (Op.shift BinOp.shr IntKind.u64 (x : Nat) IntKind.i64 (wrap64 (n - 64))).run Try.prog w = .ok (.int .u64 0) w := by
  rw [wrap_sub (by omega) h2, shift_shr_any _ _ _ _ (by omega)]
  have e := div_big hx (n.toNat - 128)
  rw [show n.toNat - 128 + 64 = (n - 64).toNat by omega] at e
  simp only [IntKind.bits, e]
  rfl
set_option maxHeartbeats 400000 in
theorem down_any {a : Nat} (ha : Fits a) (n : Int) (hn : I63 n) (w : World) :
    Calls Try.prog 86 #[A a, .int .i64 n] w (Gives (A (downS a n.toNat)) w) := by
  by_cases h0 : n ≤ 0
  · have H := hide (downS_none a)
    have E : n.toNat = 0 := by omega
    rw [E]
    clear E
    go_enter Try.func86, Try.ntmps86
    go_wp2
    exact bodyPost_ret (v := A (downS a 0)) (by simp [results, Try.results86, go_sem, H.out]) rfl ⟨rfl, ((Below.refl _ _).alloc (Nat.le_refl _) _).alloc (by simp) _⟩
  by_cases h1 : n < 64
  · have h0 : 0 < n := by omega
    go_enter Try.func86, Try.ntmps86
    go_wp2
    go_region
    go_wp2
    exact bodyPost_ret (v := A (downS a n.toNat)) (by simp [results, Try.results86, go_sem, w_down_lo a h0 h1, w_down_hi]) rfl ⟨rfl, (((Below.refl _ _).alloc (Nat.le_refl _) _).alloc (by simp) _).drew⟩
  by_cases h2 : n < 128
  · have h1 : 64 ≤ n := by omega
    have h0 : 0 < n := by omega
    have H := hide (w_down_big ha h1)
    have K := hide (hi_down_big ha (show 64 ≤ n.toNat by omega))
    go_enter Try.func86, Try.ntmps86
    go_wp2
    exact bodyPost_ret (v := A (downS a n.toNat)) (by simp [results, Try.results86, go_sem, H.out, K.out]) rfl ⟨rfl, ((Below.refl _ _).alloc (Nat.le_refl _) _).alloc (by simp) _⟩
  · have h1 : 64 ≤ n := by omega
    have h0 : 0 < n := by omega
    have K := hide (downS_zero ha (show 128 ≤ n.toNat by omega))
    have S := shr_far (hi_lt ha) n (by omega) hn
    go_enter Try.func86, Try.ntmps86
    go_wp2
    exact bodyPost_ret (v := A (downS a n.toNat)) (by simp [results, Try.results86, go_sem, K.out, hi_zero, lo_zero]) rfl ⟨rfl, ((Below.refl _ _).alloc (Nat.le_refl _) _).alloc (by simp) _⟩
theorem A_ones : Value.agg #[.int .u64 18446744073709551615, .int .u64 18446744073709551615] = A ones := by
  unfold A; rw [hi_ones, lo_ones]; rfl
set_option maxHeartbeats 400000 in
theorem tail_any (n : Int) (hn : I63 n) (w : World) :
    Calls Try.prog 84 #[.int .i64 n] w (Gives (A (downS ones n.toNat)) w) := by
  go_enter Try.func84, Try.ntmps84
  go_wp2_with fail
  rw [A_ones]
  refine (down_any fits_ones n hn _).mono ?_
  rintro e w' ⟨rfl, hb⟩
  obtain ⟨hc, hf⟩ := bcell hb
  have hz : w.heap.size < w'.heap.size := by have := hb.size; simp at this; omega
  go_wp2
  exact bodyPost_ret (v := A (downS ones n.toNat)) (by simp [results, Try.results84, go_sem, hc]) rfl ⟨rfl, ((((Below.refl _ _).alloc (Nat.le_refl _) _).trans (hb.mono (by simp))).setCell (by simp) _).setCell (by simp) _⟩
theorem hi_small {n : Nat} (h : n < 18446744073709551616) : hi n = 0 := by unfold hi; omega
theorem lo_small {n : Nat} (h : n < 18446744073709551616) : lo n = n := by unfold lo; omega
def to4S (a : Nat) : Nat := if a < 4294967296 then a else 0
def to4O (a : Nat) : Bool := decide (a < 4294967296)
set_option maxHeartbeats 400000 in
theorem to4_any (a : Nat) (w : World) :
    Calls Try.prog 45 #[A a] w (Gives (.tuple #[.int .u32 (to4S a : Nat), .bool (to4O a)]) w) := by
  have hl := lo_lt a
  have e := hi_lo a
  by_cases h : a < 4294967296
  · have H := hide (show to4S a = lo a by unfold to4S; rw [if_pos h, lo_small (by omega)])
    have K := hide (show to4O a = true by unfold to4O; simpa using h)
    have h1 : hi a = 0 := hi_small (by omega)
    have h2 : ((hi a : Int) != 0) = false := by rw [h1]; rfl
    have h3 : ¬ (4294967295 < (lo a : Int)) := by omega
    clear h hl e h1
    go_enter Try.func45, Try.ntmps45
    go_wp2
    go_ret2
    exact ⟨congrArg Ending.returned (tup2 (by rw [H.out]; rfl) (bool_eq K.out.symm)), (Below.refl _ _).alloc (Nat.le_refl _) _⟩
  · have H := hide (show to4S a = 0 by unfold to4S; rw [if_neg h])
    have K := hide (show to4O a = false by unfold to4O; simpa using h)
    by_cases h1 : hi a = 0
    · have h2 : ((hi a : Int) != 0) = false := by rw [h1]; rfl
      have h3 : 4294967295 < (lo a : Int) := by omega
      clear h hl e h1
      go_enter Try.func45, Try.ntmps45
      go_wp2
      go_ret2
      exact ⟨congrArg Ending.returned (tup2 (by rw [H.out]; rfl) (bool_eq K.out.symm)), (Below.refl _ _).alloc (Nat.le_refl _) _⟩
    · have h2 : ((hi a : Int) != 0) = true := by simpa using h1
      clear h hl e h1
      go_enter Try.func45, Try.ntmps45
      go_wp2
      go_ret2
      exact ⟨congrArg Ending.returned (tup2 (by rw [H.out]; rfl) (bool_eq K.out.symm)), (Below.refl _ _).alloc (Nat.le_refl _) _⟩
/-- a prefix as the program holds it -/
abbrev Pv (p : Nat) (n : Int) : Value := .agg #[.int .u64 (hi p : Nat), .int .u64 (lo p : Nat), .int .i64 n]
set_option maxHeartbeats 400000 in
theorem clip_any {a : Nat} (ha : Fits a) (n : Int) (w : World) :
    Calls Try.prog 76 #[A a, .int .i64 n] w (Gives (.tuple #[Pv (clipA a n) (clipN n), .bool (okN n)]) w) := by
  by_cases h0 : n < 0
  · have K := hide (show okN n = false by unfold okN; simp; omega)
    have K1 := hide (show clipA a n = 0 by unfold clipA; rw [K.out]; rfl)
    have K2 := hide (show clipN n = 0 by unfold clipN; rw [K.out]; rfl)
    go_enter Try.func76, Try.ntmps76
    go_wp2
    refine bodyPost_ret (v := .tuple #[Pv (clipA a n) (clipN n), .bool (okN n)]) ?_ rfl ⟨rfl, ((Below.refl _ _).alloc (Nat.le_refl _) _).alloc (by simp) _⟩
    rw [K.out, K1.out, K2.out]
    simp [results, Try.results76, go_sem, hi_zero, lo_zero]
  by_cases h1 : 128 < n
  · have K := hide (show okN n = false by unfold okN; simp; omega)
    have K1 := hide (show clipA a n = 0 by unfold clipA; rw [K.out]; rfl)
    have K2 := hide (show clipN n = 0 by unfold clipN; rw [K.out]; rfl)
    go_enter Try.func76, Try.ntmps76
    go_wp2
    refine bodyPost_ret (v := .tuple #[Pv (clipA a n) (clipN n), .bool (okN n)]) ?_ rfl ⟨rfl, ((Below.refl _ _).alloc (Nat.le_refl _) _).alloc (by simp) _⟩
    rw [K.out, K1.out, K2.out]
    simp [results, Try.results76, go_sem, hi_zero, lo_zero]
  · have h0 : 0 ≤ n := by omega
    have h1 : n ≤ 128 := by omega
    have K := hide (show okN n = true by unfold okN; simp; omega)
    have K1 := hide (show clipA a n = clipS a n.toNat by unfold clipA; rw [K.out]; rfl)
    have K2 := hide (show clipN n = n by unfold clipN; rw [K.out]; rfl)
    have K3 := hide (w_clip_hi ha (show n.toNat ≤ 128 by omega))
    have K4 := hide (w_clip_lo ha (show n.toNat ≤ 128 by omega))
    go_enter Try.func76, Try.ntmps76
    go_wp2_with fail
    refine (tail_any n (by unfold I63; omega) _).mono ?_
    rintro e w' ⟨rfl, hb⟩
    obtain ⟨hc, hf⟩ := bcell hb
    have hz : w.heap.size + 1 < w'.heap.size := by have := hb.size; simp at this; omega
    have hz0 : w.heap.size < w'.heap.size := by omega
    go_wp2
    refine bodyPost_ret (v := .tuple #[Pv (clipA a n) (clipN n), .bool (okN n)]) ?_ rfl ⟨rfl, ?_⟩
    · rw [K.out, K1.out, K2.out]
      simp [results, Try.results76, go_sem, hc, hz, K3.out, K4.out]
    · exact (((((((Below.refl _ _).alloc (Nat.le_refl _) _).alloc (by simp) _).trans (hb.mono (by simp; omega))).setCell (by simp) _).setCell (by simp) _).setCell (by simp) _).alloc (by simp; omega) _
theorem has_words (p : Nat) (n : Int) (a : Nat) : hasS p n a = (okN n && (decide (hi (clipA a n) = hi p) && decide (lo (clipA a n) = lo p))) := by
  unfold hasS
  by_cases h : okN n = true
  · have e : clipA a n = clipS a n.toNat := by unfold clipA; rw [if_pos h]
    rw [h, e, Bool.true_and, Bool.true_and]
    by_cases k : clipS a n.toNat = p
    · rw [k]; simp
    · rw [decide_eq_false k]
      symm
      rw [Bool.and_eq_false_iff]
      by_cases k1 : hi (clipS a n.toNat) = hi p
      · right
        exact decide_eq_false fun k2 => k (eq_of_words k1 k2)
      · left; exact decide_eq_false k1
  · simp [h]
theorem clipN_ok {n : Int} (h : okN n = true) : clipN n = n := by unfold clipN; rw [if_pos h]
set_option maxHeartbeats 400000 in
theorem has_any {p a : Nat} (ha : Fits a) (n : Int) (w : World) :
    Calls Try.prog 59 #[Pv p n, A a] w (Gives (.bool (hasS p n a)) w) := by
  have fin : ∀ w' : World, Below w.heap.size w w' → ∀ b : Bool, b = hasS p n a → Gives (.bool (hasS p n a)) w (.returned (.bool b)) w' := fun w' h b e => ⟨by rw [e], h⟩
  have hk : ∀ b : Bool, okN n = b → okN n = b := fun _ h => h
  by_cases ho : okN n = true
  · have hn := clipN_ok ho
    have F := hide (fin)
    clear fin hk
    go_enter Try.func59, Try.ntmps59
    go_wp2_with fail
    refine (clip_any ha n _).mono ?_
    rintro e w' ⟨rfl, hb⟩
    obtain ⟨hc, hf⟩ := bcell hb
    have hz : w.heap.size + 1 < w'.heap.size := by have := hb.size; simp at this; omega
    have hz0 : w.heap.size < w'.heap.size := by omega
    go_wp2
    all_goals go_ret
    all_goals refine F.out _ (((((Below.refl _ _).alloc (Nat.le_refl _) _).alloc (by simp) _).trans (hb.mono (by simp; omega))).alloc (by omega) _) _ ?_
    all_goals (rw [has_words]; simp [*]; try omega)
  · have hq : hasS p n a = false := by unfold hasS; simp [ho]
    have F := hide (fin)
    have Q := hide hq
    have ho : okN n = false := by simpa using ho
    clear fin hk hq
    go_enter Try.func59, Try.ntmps59
    go_wp2_with fail
    refine (clip_any ha n _).mono ?_
    rintro e w' ⟨rfl, hb⟩
    obtain ⟨hc, hf⟩ := bcell hb
    have hz : w.heap.size + 1 < w'.heap.size := by have := hb.size; simp at this; omega
    have hz0 : w.heap.size < w'.heap.size := by omega
    go_wp2
    go_ret
    exact F.out _ (((((Below.refl _ _).alloc (Nat.le_refl _) _).alloc (by simp) _).trans (hb.mono (by simp; omega))).alloc (by omega) _) _ Q.out.symm
set_option maxHeartbeats 400000 in
theorem sound_any {p : Nat} (hp : Fits p) (n : Int) (w : World) :
    Calls Try.prog 44 #[Pv p n] w (Gives (.bool (soundS p n)) w) := by
  go_enter Try.func44, Try.ntmps44
  go_wp2_with fail
  refine (has_any (p := p) hp n _).mono ?_
  rintro e w' ⟨rfl, hb⟩
  go_wp2
  go_ret
  exact ⟨rfl, ((Below.refl _ _).alloc (Nat.le_refl _) _).trans (hb.mono (by simp))⟩
set_option maxHeartbeats 400000 in
theorem covers_any {p q : Nat} (hq : Fits q) (n m : Int) (w : World) :
    Calls Try.prog 48 #[Pv p n, Pv q m] w (Gives (.bool (coversS p n q m)) w) := by
  have fin : ∀ (w' : World) (b : Bool), Below w.heap.size w w' → b = coversS p n q m → Gives (.bool (coversS p n q m)) w (.returned (.bool b)) w' := fun w' b h e => ⟨by rw [e], h⟩
  have F := hide (fin)
  clear fin
  go_enter Try.func48, Try.ntmps48
  go_wp2_with fail
  refine (sound_any hq m _).mono ?_
  rintro e w' ⟨rfl, hb⟩
  obtain ⟨hc, hf⟩ := bcell hb
  have hz : w.heap.size + 1 < w'.heap.size := by have := hb.size; simp at this; omega
  have hz0 : w.heap.size < w'.heap.size := by omega
  go_wp2_with (go_at_call 59; refine (has_any (p := p) hq n _).mono ?_; rintro e w2 ⟨rfl, hb2⟩)
  all_goals go_ret
  all_goals refine F.out _ _ ?_ ?_
  all_goals first
    | exact ((((Below.refl _ _).alloc (Nat.le_refl _) _).alloc (by simp) _).trans (hb.mono (by simp; omega))).trans (hb2.mono (by omega))
    | exact (((Below.refl _ _).alloc (Nat.le_refl _) _).alloc (by simp) _).trans (hb.mono (by simp; omega))
    | (unfold coversS; simp [*]; done)
    | (unfold coversS; simp [*]; omega)
set_option maxHeartbeats 400000 in
theorem meets_any {p q : Nat} (hp : Fits p) (hq : Fits q) (n m : Int) (w : World) :
    Calls Try.prog 31 #[Pv p n, Pv q m] w (Gives (.bool (meetsS p n q m)) w) := by
  have fin : ∀ (w' : World) (b : Bool), Below w.heap.size w w' → b = meetsS p n q m → Gives (.bool (meetsS p n q m)) w (.returned (.bool b)) w' := fun w' b h e => ⟨by rw [e], h⟩
  have F := hide (fin)
  clear fin
  go_enter Try.func31, Try.ntmps31
  go_wp2_with fail
  refine (covers_any (p := p) hq n m _).mono ?_
  rintro e w' ⟨rfl, hb⟩
  obtain ⟨hc, hf⟩ := bcell hb
  have hz : w.heap.size + 1 < w'.heap.size := by have := hb.size; simp at this; omega
  have hz0 : w.heap.size < w'.heap.size := by omega
  go_wp2_with (go_at_call 48; refine (covers_any (p := q) hp m n _).mono ?_; rintro e w2 ⟨rfl, hb2⟩)
  all_goals go_ret
  all_goals refine F.out _ _ ?_ ?_
  all_goals first
    | exact ((((Below.refl _ _).alloc (Nat.le_refl _) _).alloc (by simp) _).trans (hb.mono (by simp; omega))).trans (hb2.mono (by omega))
    | exact (((Below.refl _ _).alloc (Nat.le_refl _) _).alloc (by simp) _).trans (hb.mono (by simp; omega))
    | (unfold meetsS; simp [*]; done)
    | (unfold meetsS; simp [*]; omega)
end Go.Proofs.Ytpldkgollhbolaa
