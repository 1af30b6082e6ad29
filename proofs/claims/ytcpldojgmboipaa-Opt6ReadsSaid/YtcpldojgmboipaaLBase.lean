/-
  Basics of the walks over lease: what a call gives, memory kept over calls; contracts of addr's calls (Cmp, To4, Clip, Has, Sound, Covers, Meets) and what they call. Conditions: a word is a word of 64 bits, an int is an int of 64 bits (every value of the types is such).
-/
import Derived.Test.YtcpldojgmboipaaProg
import Derived.Test.YtcpldojgmboipaaAddrP
import Derived.Test.YtcpldojgmboipaaAddrT
import Derived.Test.YtcpldojgmboipaaAddrNestM
import Derived.Test.YtcpldojgmboipaaOctM
import Derived.WalkKit
import Derived.WalkSpells
import Derived.WalkLawsBesides
import Derived.Laws.Externs
import Derived.RegionTactic
import Derived.ChangeAlike
import Derived.Lib.Strings
import Derived.Lib.Slices
import Derived.Lib.Small
import Derived.Lib.Walk
import Derived.Lib.BitFns
import Derived.Lib.SmallJoins
import Derived.ProofKit
import Derived.BigQuiet
import Derived.Deep.QuietTactic
import Derived.Laws.CopyOwn
import Derived.Laws.IdiomStrings
import Derived.Deep.AppendLies
import Derived.ArgAppend
import Derived.Laws.OwnMore
import Derived.Deep.RegionWith
import Derived.Deep.RegionHeld3
namespace Go.Proofs.Ytcpldojgmboipaa
open Go.RowKit Go.Joins

abbrev A (a : Nat) : Value := .agg #[.int .u64 (hi a : Nat), .int .u64 (lo a : Nat)]
/-- a call with this one result, nothing old changed -/
def Gives (v : Value) (w : World) (e : Ending) (w' : World) : Prop := e = .returned v ∧ Below w.heap.size w w'
/-- a call with this one result, nothing touched at all -/
def Same (v : Value) (w : World) (e : Ending) (w' : World) : Prop := e = .returned v ∧ w = w'
theorem hide {p : Prop} (h : p) : Hid p := h
theorem bool_eq {a b : Bool} (h : a = b) : Value.bool a = .bool b := by rw [h]
theorem tup2 {x x' y y' : Value} (h : x = x') (k : y = y') : Value.tuple #[x, y] = .tuple #[x', y'] := by rw [h, k]
theorem tup3 {x x' y y' z z' : Value} (h : x = x') (k : y = y') (l : z = z') : Value.tuple #[x, y, z] = .tuple #[x', y', z'] := by rw [h, k, l]
theorem bcell {W w1 : World} (hb : Below W.heap.size W w1) : (∀ b o, b < W.heap.size → w1.cell? ⟨b, o, none⟩ = W.cell? ⟨b, o, none⟩) ∧ (∀ b o, b < W.heap.size → w1.frozen? ⟨b, o, none⟩ = W.frozen? ⟨b, o, none⟩) :=
  ⟨fun b o h => hb.cell (p := ⟨b, o, none⟩) h, fun b o h => hb.frozen (p := ⟨b, o, none⟩) h⟩
theorem keep_cell {W w2 : World} {p : Go.Addr} {v : Value} (hb : Below W.heap.size W w2) (h : W.cell? p = some v) : w2.cell? p = some v := by
  rw [hb.cell (World.block_lt_of_cell? W p h), h]
theorem keep_free {W w2 : World} {p : Go.Addr} (hb : Below W.heap.size W w2) (hl : p.block < W.heap.size) (h : W.frozen? p = false) : w2.frozen? p = false := by
  rw [hb.frozen hl, h]
theorem below_alloc (W : World) (o : Obj) : Below W.heap.size W (W.alloc o) := (Below.refl _ _).alloc (Nat.le_refl _) _
theorem below_drew (W : World) : Below W.heap.size W W.drew := (Below.refl _ _).drew
theorem below_drewN (W : World) (n : Nat) : Below W.heap.size W (W.drewN n) := ⟨rfl, rfl, rfl, Nat.le_refl _, fun _ _ => rfl⟩
theorem chain {w v v' : World} (h : Below w.heap.size w v) (k : Below v.heap.size v v') : Below w.heap.size w v' := h.trans (k.mono h.size)
/-- a text of bytes -/
abbrev St (l : List UInt8) : Value := .string ⟨l.toArray⟩
theorem st_eq {a b : List UInt8} (h : a = b) : St a = St b := by rw [h]
theorem infoB : (Try.prog.info? 5).map (fun i => (i.zero, i.size, i.bytes)) = some (some (.int .u8 0), 1, 1) := by kernel_rfl
def byteV (b : UInt8) : Value := .int .u8 (b.toNat : Int)
theorem conv_own {w : World} {base g n cap : Nat} {l : List UInt8} (h : w.ownsRow base 5 1 (.slice (some ⟨g, 0, none⟩) n cap) n (l.map byteV)) :
    (convert 65 9 (.slice (some ⟨g, 0, none⟩) n cap)).run Try.prog w = .ok (St l) w := by
  have hl : n = l.length := by have := h.1; simp at this; omega
  subst hl
  refine run_convert_bytes_back (P := Try.prog) w 65 9 5 ⟨g, 0, none⟩ cap l Try.underlying65 Try.underlying5 Try.underlying9 (fun j hj => ?_)
  have := h.cellAt j (by omega)
  have ha : (⟨g, 0, none⟩ : Go.Addr).add j = ⟨g, j, none⟩ := by cases j <;> simp [Addr.add]
  rw [ha, this, List.getElem?_map, List.getElem?_eq_getElem hj]
  rfl
/-- an int of 64 bits -/
def I64 (a : Int) : Prop := -9223372036854775808 ≤ a ∧ a ≤ 9223372036854775807
theorem agg2 {x x' y y' : Int} (h : x = x') (k : y = y') : Value.agg #[.int .u64 x, .int .u64 y] = .agg #[.int .u64 x', .int .u64 y'] := by rw [h, k]
theorem i64_eq {a b : Int} (h : a = b) : Value.int .i64 a = .int .i64 b := by rw [h]
theorem u64_eq {a b : Int} (h : a = b) : Value.int .u64 a = .int .u64 b := by rw [h]
set_option maxHeartbeats 400000 in
theorem bit_any {a : Nat} (ha : Fits a) (i : Int) (h0 : 0 ≤ i) (h1 : i < 128) (w : World) :
    Calls Try.prog 92 #[A a, .int .i64 i] w (Gives (.int .u64 (bitS a i.toNat : Nat)) w) := by
  by_cases h : i < 64
  · go_enter Try.func92, Try.ntmps92
    go_wp2
    go_ret
    exact ⟨congrArg Ending.returned (u64_eq (w_bit_hi ha h0 h)), (Below.refl _ _).alloc (Nat.le_refl _) _⟩
  · go_enter Try.func92, Try.ntmps92
    go_wp2
    go_ret
    exact ⟨congrArg Ending.returned (u64_eq (w_bit_lo a (by omega) h1)), (Below.refl _ _).alloc (Nat.le_refl _) _⟩
set_option maxHeartbeats 400000 in
theorem with_any {a : Nat} (ha : Fits a) (i : Int) (h0 : 0 ≤ i) (h1 : i < 128) (w : World) :
    Calls Try.prog 93 #[A a, .int .i64 i] w (Gives (A (withS a i.toNat)) w) := by
  by_cases h : i < 64
  · have e := lo_withS' a (show i.toNat < 64 by omega)
    have H := hide e
    clear e
    go_enter Try.func93, Try.ntmps93
    go_wp2
    exact bodyPost_ret (v := A (withS a i.toNat)) (by simp [results, Try.results93, go_sem, w_with_hi ha h0 h, ← H.out]) rfl ⟨rfl, ((Below.refl _ _).alloc (Nat.le_refl _) _).alloc (by simp) _⟩
  · have e := hi_withS' a (show 64 ≤ i.toNat by omega) (by omega)
    have H := hide e
    clear e
    go_enter Try.func93, Try.ntmps93
    go_wp2
    exact bodyPost_ret (v := A (withS a i.toNat)) (by simp [results, Try.results93, go_sem, w_with_lo a (by omega) h1, ← H.out]) rfl ⟨rfl, ((Below.refl _ _).alloc (Nat.le_refl _) _).alloc (by simp) _⟩
theorem cmpS_lt {a b : Nat} (h : a < b) : cmpS a b = -1 := by unfold cmpS; rw [if_pos h]
theorem cmpS_gt {a b : Nat} (h : b < a) : cmpS a b = 1 := by unfold cmpS; rw [if_neg (by omega), if_pos h]
theorem cmpS_eq {a b : Nat} (h : a = b) : cmpS a b = 0 := by unfold cmpS; rw [if_neg (by omega), if_neg (by omega)]
theorem wrap_sub {n : Int} (h : 64 ≤ n) (h2 : n ≤ 9223372036854775807) : wrap64 (n - 64) = n - 64 := IntWalk.wrap64_in _ ⟨by omega, by omega⟩
theorem div_big {x : Nat} (h : x < 18446744073709551616) (k : Nat) : (x : Int) / 2 ^ min (k + 64) 64 = 0 := by
  rw [show min (k + 64) 64 = 64 by omega, cast_div, Nat.div_eq_of_lt h]
  rfl
/-- an int that is not beyond the greatest one -/
def I63 (n : Int) : Prop := n ≤ 9223372036854775807
theorem shr_far {x : Nat} (hx : x < 18446744073709551616) (n : Int) (h : 128 ≤ n) (h2 : I63 n) (w : World) :
    (Op.shift BinOp.shr IntKind.u64 (x : Nat) IntKind.i64 (wrap64 (n - 64))).run Try.prog w = .ok (.int .u64 0) w := by
  rw [wrap_sub (by omega) h2, shift_shr_any _ _ _ _ (by omega)]
  have e := div_big hx (n.toNat - 128)
  rw [show n.toNat - 128 + 64 = (n - 64).toNat by omega] at e
  simp only [IntKind.bits, e]
  rfl
set_option maxHeartbeats 400000 in
theorem down_any {a : Nat} (ha : Fits a) (n : Int) (hn : I63 n) (w : World) :
    Calls Try.prog 109 #[A a, .int .i64 n] w (Gives (A (downS a n.toNat)) w) := by
  by_cases h0 : n ≤ 0
  · have H := hide (downS_none a)
    have E : n.toNat = 0 := by omega
    rw [E]
    clear E
    go_enter Try.func109, Try.ntmps109
    go_wp2
    exact bodyPost_ret (v := A (downS a 0)) (by simp [results, Try.results109, go_sem, H.out]) rfl ⟨rfl, ((Below.refl _ _).alloc (Nat.le_refl _) _).alloc (by simp) _⟩
  by_cases h1 : n < 64
  · have h0 : 0 < n := by omega
    go_enter Try.func109, Try.ntmps109
    go_wp2
    go_region
    go_wp2
    exact bodyPost_ret (v := A (downS a n.toNat)) (by simp [results, Try.results109, go_sem, w_down_lo a h0 h1, w_down_hi]) rfl ⟨rfl, (((Below.refl _ _).alloc (Nat.le_refl _) _).alloc (by simp) _).drew⟩
  by_cases h2 : n < 128
  · have h1 : 64 ≤ n := by omega
    have h0 : 0 < n := by omega
    have H := hide (w_down_big ha h1)
    have K := hide (hi_down_big ha (show 64 ≤ n.toNat by omega))
    go_enter Try.func109, Try.ntmps109
    go_wp2
    exact bodyPost_ret (v := A (downS a n.toNat)) (by simp [results, Try.results109, go_sem, H.out, K.out]) rfl ⟨rfl, ((Below.refl _ _).alloc (Nat.le_refl _) _).alloc (by simp) _⟩
  · have h1 : 64 ≤ n := by omega
    have h0 : 0 < n := by omega
    have K := hide (downS_zero ha (show 128 ≤ n.toNat by omega))
    have S := shr_far (hi_lt ha) n (by omega) hn
    go_enter Try.func109, Try.ntmps109
    go_wp2
    exact bodyPost_ret (v := A (downS a n.toNat)) (by simp [results, Try.results109, go_sem, K.out, hi_zero, lo_zero]) rfl ⟨rfl, ((Below.refl _ _).alloc (Nat.le_refl _) _).alloc (by simp) _⟩
theorem A_ones : Value.agg #[.int .u64 18446744073709551615, .int .u64 18446744073709551615] = A ones := by
  unfold A; rw [hi_ones, lo_ones]; rfl
set_option maxHeartbeats 400000 in
theorem tail_any (n : Int) (hn : I63 n) (w : World) :
    Calls Try.prog 107 #[.int .i64 n] w (Gives (A (downS ones n.toNat)) w) := by
  go_enter Try.func107, Try.ntmps107
  go_wp2_with fail
  rw [A_ones]
  refine (down_any fits_ones n hn _).mono ?_
  rintro e w' ⟨rfl, hb⟩
  obtain ⟨hc, hf⟩ := bcell hb
  have hz : w.heap.size < w'.heap.size := by have := hb.size; simp at this; omega
  go_wp2
  exact bodyPost_ret (v := A (downS ones n.toNat)) (by simp [results, Try.results107, go_sem, hc]) rfl ⟨rfl, ((((Below.refl _ _).alloc (Nat.le_refl _) _).trans (hb.mono (by simp))).setCell (by simp) _).setCell (by simp) _⟩
theorem hi_small {n : Nat} (h : n < 18446744073709551616) : hi n = 0 := by unfold hi; omega
theorem lo_small {n : Nat} (h : n < 18446744073709551616) : lo n = n := by unfold lo; omega
def to4S (a : Nat) : Nat := if a < 4294967296 then a else 0
def to4O (a : Nat) : Bool := decide (a < 4294967296)
/-- a prefix as the program holds it -/
abbrev Pv (p : Nat) (n : Int) : Value := .agg #[.int .u64 (hi p : Nat), .int .u64 (lo p : Nat), .int .i64 n]
set_option maxHeartbeats 400000 in
theorem clip_any {a : Nat} (ha : Fits a) (n : Int) (w : World) :
    Calls Try.prog 103 #[A a, .int .i64 n] w (Gives (.tuple #[Pv (clipA a n) (clipN n), .bool (okN n)]) w) := by
  by_cases h0 : n < 0
  · have K := hide (show okN n = false by unfold okN; simp; omega)
    have K1 := hide (show clipA a n = 0 by unfold clipA; rw [K.out]; rfl)
    have K2 := hide (show clipN n = 0 by unfold clipN; rw [K.out]; rfl)
    go_enter Try.func103, Try.ntmps103
    go_wp2
    refine bodyPost_ret (v := .tuple #[Pv (clipA a n) (clipN n), .bool (okN n)]) ?_ rfl ⟨rfl, ((Below.refl _ _).alloc (Nat.le_refl _) _).alloc (by simp) _⟩
    rw [K.out, K1.out, K2.out]
    simp [results, Try.results103, go_sem, hi_zero, lo_zero]
  by_cases h1 : 128 < n
  · have K := hide (show okN n = false by unfold okN; simp; omega)
    have K1 := hide (show clipA a n = 0 by unfold clipA; rw [K.out]; rfl)
    have K2 := hide (show clipN n = 0 by unfold clipN; rw [K.out]; rfl)
    go_enter Try.func103, Try.ntmps103
    go_wp2
    refine bodyPost_ret (v := .tuple #[Pv (clipA a n) (clipN n), .bool (okN n)]) ?_ rfl ⟨rfl, ((Below.refl _ _).alloc (Nat.le_refl _) _).alloc (by simp) _⟩
    rw [K.out, K1.out, K2.out]
    simp [results, Try.results103, go_sem, hi_zero, lo_zero]
  · have h0 : 0 ≤ n := by omega
    have h1 : n ≤ 128 := by omega
    have K := hide (show okN n = true by unfold okN; simp; omega)
    have K1 := hide (show clipA a n = clipS a n.toNat by unfold clipA; rw [K.out]; rfl)
    have K2 := hide (show clipN n = n by unfold clipN; rw [K.out]; rfl)
    have K3 := hide (w_clip_hi ha (show n.toNat ≤ 128 by omega))
    have K4 := hide (w_clip_lo ha (show n.toNat ≤ 128 by omega))
    go_enter Try.func103, Try.ntmps103
    go_wp2_with fail
    refine (tail_any n (by unfold I63; omega) _).mono ?_
    rintro e w' ⟨rfl, hb⟩
    obtain ⟨hc, hf⟩ := bcell hb
    have hz : w.heap.size + 1 < w'.heap.size := by have := hb.size; simp at this; omega
    have hz0 : w.heap.size < w'.heap.size := by omega
    go_wp2
    refine bodyPost_ret (v := .tuple #[Pv (clipA a n) (clipN n), .bool (okN n)]) ?_ rfl ⟨rfl, ?_⟩
    · rw [K.out, K1.out, K2.out]
      simp [results, Try.results103, go_sem, hc, hz, K3.out, K4.out]
    · exact (((((((Below.refl _ _).alloc (Nat.le_refl _) _).alloc (by simp) _).trans (hb.mono (by simp; omega))).setCell (by simp) _).setCell (by simp) _).setCell (by simp) _).alloc (by simp; omega) _
theorem has_words (p : Nat) (n : Int) (a : Nat) : hasS p n a = (okN n && (decide (hi (clipA a n) = hi p) && decide (lo (clipA a n) = lo p))) := by
  unfold hasS
  by_cases h : okN n = true
  · have e : clipA a n = clipS a n.toNat := by unfold clipA; rw [if_pos h]
    rw [h, e, Bool.true_and, Bool.true_and]
    by_cases k : clipS a n.toNat = p
    · rw [k]; simp
    · rw [decide_eq_false k]
      symm
      rw [Bool.and_eq_false_iff]
      by_cases k1 : hi (clipS a n.toNat) = hi p
      · right
        exact decide_eq_false fun k2 => k (eq_of_words k1 k2)
      · left; exact decide_eq_false k1
  · simp [h]
theorem clipN_ok {n : Int} (h : okN n = true) : clipN n = n := by unfold clipN; rw [if_pos h]
set_option maxHeartbeats 400000 in
theorem has_any {p a : Nat} (ha : Fits a) (n : Int) (w : World) :
    Calls Try.prog 91 #[Pv p n, A a] w (Gives (.bool (hasS p n a)) w) := by
  have fin : ∀ w' : World, Below w.heap.size w w' → ∀ b : Bool, b = hasS p n a → Gives (.bool (hasS p n a)) w (.returned (.bool b)) w' := fun w' h b e => ⟨by rw [e], h⟩
  have hk : ∀ b : Bool, okN n = b → okN n = b := fun _ h => h
  by_cases ho : okN n = true
  · have hn := clipN_ok ho
    have F := hide (fin)
    clear fin hk
    go_enter Try.func91, Try.ntmps91
    go_wp2_with fail
    refine (clip_any ha n _).mono ?_
    rintro e w' ⟨rfl, hb⟩
    obtain ⟨hc, hf⟩ := bcell hb
    have hz : w.heap.size + 1 < w'.heap.size := by have := hb.size; simp at this; omega
    have hz0 : w.heap.size < w'.heap.size := by omega
    go_wp2
    all_goals go_ret
    all_goals refine F.out _ (((((Below.refl _ _).alloc (Nat.le_refl _) _).alloc (by simp) _).trans (hb.mono (by simp; omega))).alloc (by omega) _) _ ?_
    all_goals (rw [has_words]; simp [*]; try omega)
  · have hq : hasS p n a = false := by unfold hasS; simp [ho]
    have F := hide (fin)
    have Q := hide hq
    have ho : okN n = false := by simpa using ho
    clear fin hk hq
    go_enter Try.func91, Try.ntmps91
    go_wp2_with fail
    refine (clip_any ha n _).mono ?_
    rintro e w' ⟨rfl, hb⟩
    obtain ⟨hc, hf⟩ := bcell hb
    have hz : w.heap.size + 1 < w'.heap.size := by have := hb.size; simp at this; omega
    have hz0 : w.heap.size < w'.heap.size := by omega
    go_wp2
    go_ret
    exact F.out _ (((((Below.refl _ _).alloc (Nat.le_refl _) _).alloc (by simp) _).trans (hb.mono (by simp; omega))).alloc (by omega) _) _ Q.out.symm
set_option maxHeartbeats 400000 in
theorem sound_any {p : Nat} (hp : Fits p) (n : Int) (w : World) :
    Calls Try.prog 73 #[Pv p n] w (Gives (.bool (soundS p n)) w) := by
  go_enter Try.func73, Try.ntmps73
  go_wp2_with fail
  refine (has_any (p := p) hp n _).mono ?_
  rintro e w' ⟨rfl, hb⟩
  go_wp2
  go_ret
  exact ⟨rfl, ((Below.refl _ _).alloc (Nat.le_refl _) _).trans (hb.mono (by simp))⟩
end Go.Proofs.Ytcpldojgmboipaa
