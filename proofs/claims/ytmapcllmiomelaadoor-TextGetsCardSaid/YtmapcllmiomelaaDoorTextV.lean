/-
  What the walks over texts need of package-level variables (they hold what the program's text lays), kept over calls; contracts of Num and GetNum. Conditions: those variables hold what is laid; the text is shorter than 2^48 bytes; an int is an int of 64 bits.
-/
import Derived.Test.YtmapcllmiomelaaDoorShelf
import Derived.Test.YtmapcllmiomelaaDoorTextAddr
import Derived.Lib.SmallJoins
import Derived.ProofKit
import Derived.BigQuiet
import Derived.Deep.QuietTactic
namespace Go.Proofs.YtmapcllmiomelaaDoor
open Go.RowKit Go.Joins

/-- the variables of the library that texts read -/
def VO (w : World) : Prop := (∃ m : Int, w.cell? ⟨0, 0, none⟩ = some (.int .i64 m)) ∧ (∃ te pe, w.cell? ⟨1, 0, none⟩ = some (.iface te pe)) ∧
  (∃ te pe, w.cell? ⟨2, 0, none⟩ = some (.iface te pe)) ∧ Lib.TabIs Tryd.prog w "internal/strconv.uint64pow10" .u64 Lib.pow10Tab ∧
  w.cell? ⟨7, 15, none⟩ = some (.int .u8 4)
theorem keep_cell {W w2 : World} {p : Go.Addr} {v : Value} (hb : Below W.heap.size W w2) (h : W.cell? p = some v) : w2.cell? p = some v := by
  rw [hb.cell (World.block_lt_of_cell? W p h), h]
theorem keep_free {W w2 : World} {p : Go.Addr} (hb : Below W.heap.size W w2) (hl : p.block < W.heap.size) (h : W.frozen? p = false) : w2.frozen? p = false := by
  rw [hb.frozen hl, h]
theorem VO.step {W w2 : World} (hb : Below W.heap.size W w2) (h : VO W) : VO w2 := by
  obtain ⟨⟨m, h1⟩, ⟨te, pe, h2⟩, ⟨tf, pf, h3⟩, h4, h5⟩ := h
  exact ⟨⟨m, keep_cell hb h1⟩, ⟨te, pe, keep_cell hb h2⟩, ⟨tf, pf, keep_cell hb h3⟩, tab_stays (g := 3) (by kernel_rfl) h4 hb (Nat.le_refl _), keep_cell hb h5⟩
theorem below_alloc (W : World) (o : Obj) : Below W.heap.size W (W.alloc o) := (Below.refl _ _).alloc (Nat.le_refl _) _
theorem below_drew (W : World) : Below W.heap.size W W.drew := (Below.refl _ _).drew
theorem below_drewN (W : World) (n : Nat) : Below W.heap.size W (W.drewN n) := ⟨rfl, rfl, rfl, Nat.le_refl _, fun _ _ => rfl⟩
theorem below_grow (W : World) (os : Array Obj) : Below W.heap.size W (Sort.grow W os) := by
  refine ⟨rfl, rfl, rfl, by simp [Sort.grow], fun b hb => ?_⟩
  simp only [Sort.grow]
  rw [Array.getElem?_append_left hb]
theorem chain {w v v' : World} (h : Below w.heap.size w v) (k : Below v.heap.size v v') : Below w.heap.size w v' := h.trans (k.mono h.size)

/-- a text of bytes -/
abbrev St (l : List UInt8) : Value := .string ⟨l.toArray⟩

theorem st_eq {a b : List UInt8} (h : a = b) : St a = St b := by rw [h]
theorem tail_eta {l : List UInt8} {s : ByteArray} (h : l = s.data.toList) : (⟨l.toArray⟩ : ByteArray) = s := by rw [h]

theorem num_any (n : Int) (h0 : -9223372036854775808 ≤ n) (h1 : n ≤ 9223372036854775807) (w : World) (hv : VO w) :
    Calls Tryd.prog 25 #[.int .i64 n] w (Gives (St (Lib.itoa n)) w) := by
  go_enter Tryd.func25, Tryd.ntmps25
  go_wp2_with fail
  refine (Tryd.strconv_Itoa n h0 h1 _ hv.2.2.2.1).mono ?_
  rintro e w' ⟨rfl, k, os, rfl⟩
  go_wp2
  go_ret
  exact ⟨rfl, chain (below_drewN _ _) (below_grow _ _)⟩

/-- the number that a text is of -/
def gnum (l : List UInt8) : Option Nat :=
  match Lib.atoiAll l with
  | .ok v => if 0 ≤ v ∧ v ≤ 4611686018427387904 ∧ Lib.itoa v = l then some v.toNat else none
  | _ => none
def numV (l : List UInt8) : Int := match gnum l with | some n => n | none => 0
def numO (l : List UInt8) : Bool := (gnum l).isSome
theorem gnum_none {l : List UInt8} (h : gnum l = none) : numV l = 0 ∧ numO l = false := by unfold numV numO; rw [h]; exact ⟨rfl, rfl⟩
theorem gnum_some {l : List UInt8} {n : Nat} (h : gnum l = some n) : numV l = n ∧ numO l = true := by unfold numV numO; rw [h]; exact ⟨rfl, rfl⟩
theorem gnum_eq {l : List UInt8} {n : Nat} (h : gnum l = some n) : n ≤ 4611686018427387904 ∧ Lib.itoa n = l := by
  unfold gnum at h
  split at h
  · split at h
    · rename_i v _ hc
      obtain ⟨h0, h1, h2⟩ := hc
      have e : v.toNat = n := Option.some.inj h
      have e2 : (n : Int) = v := by omega
      exact ⟨by omega, by rw [e2]; exact h2⟩
    · cases h
  · cases h

/-- a bound that is kept folded -/
def Lim (n : Nat) : Prop := n ≤ 4294967280
theorem atoi_bounds {l : List UInt8} {v : Int} (h : Lib.atoiAll l = .ok v) : -9223372036854775808 ≤ v ∧ v ≤ 9223372036854775807 := by
  unfold Lib.atoiAll at h
  split at h
  · cases h
  · simp only at h
    split at h
    · cases h
    · cases h
    · split at h
      · cases h
      · split at h
        · cases h
        · injection h with h
          split at h <;> omega

theorem atoi_below {w w1 : World} (hw : w1 = w ∨ ∃ t, w1 = Lib.bytesWorld w 5 t) : Below w.heap.size w w1 := by
  rcases hw with rfl | ⟨t, rfl⟩
  · exact Below.refl _ _
  · exact Lib.bytesWorld_below _ _ _

theorem getnum_any (s : ByteArray) (hs : Lim s.size) (w : World) (hv : VO w) :
    Calls Tryd.prog 18 #[.string s] w (Gives (.tuple #[.int .i64 (numV s.data.toList), .bool (numO s.data.toList)]) w) := by
  have hs' : s.size ≤ 281474976710656 := Nat.le_trans hs (by omega)
  obtain ⟨_, ⟨te, pe, h2⟩, ⟨tf, pf, h3⟩, _⟩ := id hv
  rcases h : Lib.atoiAll s.data.toList with v | _ | _
  · have hb := atoi_bounds h
    have C := hide (Tryd.strconv_Atoi_ok s (by omega) v h)
    by_cases hn : v < 0
    · have K := hide (gnum_none (show gnum s.data.toList = none by unfold gnum; rw [h]; simp only; rw [if_neg (by omega)]))
      clear h h2 h3 hs' hb
      go_enter Tryd.func18, Tryd.ntmps18
      go_wp2_with fail
      refine (C.out _).mono ?_
      rintro e w1 ⟨rfl, hw⟩
      have hb1 := atoi_below hw
      clear hw
      go_wp2
      go_ret2
      exact ⟨congrArg Ending.returned (tup2 (i64_eq K.out.1.symm) (bool_eq K.out.2.symm)), hb1⟩
    by_cases hg : 4611686018427387904 < v
    · have K := hide (gnum_none (show gnum s.data.toList = none by unfold gnum; rw [h]; simp only; rw [if_neg (by omega)]))
      clear h h2 h3 hs' hb
      go_enter Tryd.func18, Tryd.ntmps18
      go_wp2_with fail
      refine (C.out _).mono ?_
      rintro e w1 ⟨rfl, hw⟩
      have hb1 := atoi_below hw
      clear hw
      go_wp2
      go_ret2
      exact ⟨congrArg Ending.returned (tup2 (i64_eq K.out.1.symm) (bool_eq K.out.2.symm)), hb1⟩
    have N := hide (num_any v (by omega) (by omega))
    by_cases he : Lib.itoa v = s.data.toList
    · have K := hide (gnum_some (show gnum s.data.toList = some v.toNat by unfold gnum; rw [h]; simp only; rw [if_pos ⟨by omega, by omega, he⟩]))
      have K2 := hide (show ((v.toNat : Nat) : Int) = v by omega)
      have E := tail_eta he
      have hv0 : 0 ≤ v := by omega
      clear h h2 h3 hs' hb
      go_enter Tryd.func18, Tryd.ntmps18
      go_wp2_with fail
      refine (C.out _).mono ?_
      rintro e w1 ⟨rfl, hw⟩
      have hb1 := atoi_below hw
      clear hw
      go_wp2_with fail
      refine (N.out _ (VO.step hb1 hv)).mono ?_
      rintro e w2 ⟨rfl, hb2⟩
      go_wp2
      go_ret2
      exact ⟨congrArg Ending.returned (tup2 (i64_eq (by rw [K.out.1, K2.out])) (bool_eq K.out.2.symm)), chain hb1 hb2⟩
    · have K := hide (gnum_none (show gnum s.data.toList = none by unfold gnum; rw [h]; simp only; rw [if_neg (fun e => he e.2.2)]))
      have E : (Lib.itoa v == s.toList) = false := by rw [ByteArray.toList_eq]; simpa using he
      clear h h2 h3 hs' hb he
      go_enter Tryd.func18, Tryd.ntmps18
      go_wp2_with fail
      refine (C.out _).mono ?_
      rintro e w1 ⟨rfl, hw⟩
      have hb1 := atoi_below hw
      clear hw
      go_wp2_with fail
      refine (N.out _ (VO.step hb1 hv)).mono ?_
      rintro e w2 ⟨rfl, hb2⟩
      go_wp2
      go_ret2
      exact ⟨congrArg Ending.returned (tup2 (i64_eq K.out.1.symm) (bool_eq K.out.2.symm)), chain hb1 hb2⟩
  · have K := hide (gnum_none (show gnum s.data.toList = none by unfold gnum; rw [h]))
    have C := hide (Tryd.strconv_Atoi_syntax s hs' (by rw [h]; trivial) (.iface te pe) w h2 (Or.inr ⟨te, pe, rfl⟩))
    clear h h2 h3 hs'
    go_enter Tryd.func18, Tryd.ntmps18
    go_wp2_with fail
    refine C.out.mono ?_
    rintro e w1 ⟨N, rfl, _, _, hb1⟩
    go_wp2
    go_ret2
    exact ⟨congrArg Ending.returned (tup2 (i64_eq K.out.1.symm) (bool_eq K.out.2.symm)), hb1⟩
  · have K := hide (gnum_none (show gnum s.data.toList = none by unfold gnum; rw [h]))
    have C := hide (Tryd.strconv_Atoi_range s hs' h (.iface tf pf) w h3 (Or.inr ⟨tf, pf, rfl⟩))
    clear h h2 h3 hs'
    go_enter Tryd.func18, Tryd.ntmps18
    go_wp2_with fail
    refine C.out.mono ?_
    rintro e w1 ⟨N, rfl, _, _, hb1⟩
    go_wp2
    go_ret2
    exact ⟨congrArg Ending.returned (tup2 (i64_eq K.out.1.symm) (bool_eq K.out.2.symm)), hb1⟩
end Go.Proofs.YtmapcllmiomelaaDoor
