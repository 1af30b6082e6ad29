/-
  Contracts of the document's own Cmp, Clip, Sound, Has, Covers, Meets of layer 1: they return what the program's return. Conditions: a word is a word of 64 bits, an int is an int of 64 bits (every value of the types is such).
-/
import Derived.Test.YtcpldojgmboipaaLBase
namespace Go.Proofs.Ytcpldojgmboipaa
open Go.RowKit Go.Joins

theorem cell_keep {W w2 : World} {p : Go.Addr} {v : Value} (hb : Below W.heap.size W w2) (h : W.cell? p = some v) : w2.cell? p = some v := keep_cell hb h
theorem free_keep {W w2 : World} {p : Go.Addr} (hb : Below W.heap.size W w2) (hl : p.block < W.heap.size) (h : W.frozen? p = false) : w2.frozen? p = false := keep_free hb hl h
/-- three cells of a block, and that they may be written -/
def Three (g : Nat) (x y z : Value) (W : World) : Prop := W.cell? ⟨g, 0, none⟩ = some x ∧ W.cell? ⟨g, 1, none⟩ = some y ∧ W.cell? ⟨g, 2, none⟩ = some z ∧ W.frozen? ⟨g, 0, none⟩ = false ∧ W.frozen? ⟨g, 1, none⟩ = false ∧ W.frozen? ⟨g, 2, none⟩ = false ∧ g < W.heap.size
theorem Three.step {g : Nat} {x y z : Value} {W w2 : World} (h : Three g x y z W) (hb : Below W.heap.size W w2) : Three g x y z w2 := by
  obtain ⟨a, b, c, d, e, f, l⟩ := h
  have s := hb.size
  exact ⟨cell_keep hb a, cell_keep hb b, cell_keep hb c, free_keep hb l d, free_keep hb l e, free_keep hb l f, by omega⟩
theorem three_new (V : World) (x y z : Value) (t : TypeId) : Three V.heap.size x y z (V.alloc (.cells #[x, y, z] t)) := by
  refine ⟨by simp, by simp, by simp, ?_, ?_, ?_, by simp⟩ <;> simp [go_sem]
theorem three_set {g : Nat} {x y z : Value} {W : World} (h : Three g x y z W) {p : Addr} (hp : p.block ≠ g) (u : Value) : Three g x y z (W.setCell p u) := by
  obtain ⟨a, b, c, d, e, f, l⟩ := h
  have k : ∀ o, (W.setCell p u).cell? ⟨g, o, none⟩ = W.cell? ⟨g, o, none⟩ := fun o => World.cell?_of_block (w := W) (Below.heap_setCell W p u g (Ne.symm hp))
  have m : ∀ o, (W.setCell p u).frozen? ⟨g, o, none⟩ = W.frozen? ⟨g, o, none⟩ := fun o => World.frozen?_of_block (w := W) (Below.heap_setCell W p u g (Ne.symm hp))
  have z : (W.setCell p u).heap.size = W.heap.size := by simp
  refine ⟨?_, ?_, ?_, ?_, ?_, ?_, by omega⟩
  · rw [k]; exact a
  · rw [k]; exact b
  · rw [k]; exact c
  · rw [m]; exact d
  · rw [m]; exact e
  · rw [m]; exact f
def Two (g a : Nat) (W : World) : Prop := W.cell? ⟨g, 0, none⟩ = some (.int .u64 (hi a : Nat)) ∧ W.cell? ⟨g, 1, none⟩ = some (.int .u64 (lo a : Nat)) ∧
  W.frozen? ⟨g, 0, none⟩ = false ∧ W.frozen? ⟨g, 1, none⟩ = false ∧ g < W.heap.size
theorem Two.step {g a : Nat} {W w2 : World} (h : Two g a W) (hb : Below W.heap.size W w2) : Two g a w2 := by
  obtain ⟨h1, h2, h3, h4, h5⟩ := h
  have z := hb.size
  exact ⟨cell_keep hb h1, cell_keep hb h2, free_keep hb h5 h3, free_keep hb h5 h4, by omega⟩
theorem two_new (V : World) (a : Nat) (t : TypeId) : Two V.heap.size a (V.alloc (.cells #[.int .u64 (hi a : Nat), .int .u64 (lo a : Nat)] t)) := by
  refine ⟨by simp, by simp, ?_, ?_, by simp⟩ <;> simp [go_sem]
theorem two_zero (V : World) (t : TypeId) : Two V.heap.size 0 (V.alloc (.cells #[.int .u64 0, .int .u64 0] t)) := two_new V 0 t
theorem Two.put {g a : Nat} {W : World} (h : Two g a W) (y : Nat) : Two g y ((W.setCell ⟨g, 0, none⟩ (.int .u64 (hi y : Nat))).setCell ⟨g, 1, none⟩ (.int .u64 (lo y : Nat))) := by
  obtain ⟨h1, h2, h3, h4, h5⟩ := h
  refine ⟨?_, ?_, ?_, ?_, by simp; exact h5⟩
  all_goals simp [go_sem, *]
theorem Two.set {g a : Nat} {W : World} (h : Two g a W) {p : Addr} (hp : g ≠ p.block) (u : Value) : Two g a (W.setCell p u) := by
  obtain ⟨h1, h2, h3, h4, h5⟩ := h
  have k : ∀ o, (W.setCell p u).cell? ⟨g, o, none⟩ = W.cell? ⟨g, o, none⟩ := fun o => World.cell?_of_block (w := W) (Below.heap_setCell W p u g hp)
  have f : ∀ o, (W.setCell p u).frozen? ⟨g, o, none⟩ = W.frozen? ⟨g, o, none⟩ := fun o => World.frozen?_of_block (w := W) (Below.heap_setCell W p u g hp)
  exact ⟨by rw [k]; exact h1, by rw [k]; exact h2, by rw [f]; exact h3, by rw [f]; exact h4, by simp; exact h5⟩
/-- one box -/
def H1 (w : World) (a : Nat) (W : World) : Prop := Below w.heap.size w W ∧ Two w.heap.size a W
theorem H1.step {w : World} {a : Nat} {W w2 : World} (hb : Below W.heap.size W w2) (h : H1 w a W) : H1 w a w2 := ⟨h.1.trans (hb.mono h.1.size), h.2.step hb⟩
/-- two boxes -/
def H2 (w : World) (a b : Nat) (W : World) : Prop := Below w.heap.size w W ∧ Two w.heap.size a W ∧ Two (w.heap.size + 1) b W
theorem H2.step {w : World} {a b : Nat} {W w2 : World} (hb : Below W.heap.size W w2) (h : H2 w a b W) : H2 w a b w2 := ⟨h.1.trans (hb.mono h.1.size), h.2.1.step hb, h.2.2.step hb⟩
theorem H2.drew {w : World} {a b : Nat} {W : World} (h : H2 w a b W) : H2 w a b W.drew := H2.step (below_drew W) h
theorem h1_new (w : World) (a : Nat) (t : TypeId) : H1 w a (w.alloc (.cells #[.int .u64 (hi a : Nat), .int .u64 (lo a : Nat)] t)) := ⟨below_alloc _ _, two_new w a t⟩
theorem h2_new (w : World) (a b : Nat) (t : TypeId) : H2 w a b ((w.alloc (.cells #[.int .u64 (hi a : Nat), .int .u64 (lo a : Nat)] t)).alloc (.cells #[.int .u64 (hi b : Nat), .int .u64 (lo b : Nat)] t)) := by
  refine ⟨(below_alloc w _).alloc (by simp) _, (two_new w a t).step (below_alloc _ _), ?_⟩
  have := two_new (w.alloc (.cells #[.int .u64 (hi a : Nat), .int .u64 (lo a : Nat)] t)) b t
  simpa using this
theorem bit_nat {a : Nat} (ha : Fits a) (k v : Nat) (h : k < 128) (e : bitS a k = v) (w : World) :
    Calls Try.prog 92 #[A a, .int .i64 (k : Nat)] w (Gives (.int .u64 (v : Nat)) w) := by
  subst e
  have := bit_any ha (k : Int) (by omega) (by omega) w
  rwa [Int.toNat_natCast] at this
theorem with_nat {a : Nat} (ha : Fits a) (k : Nat) (h : k < 128) (w : World) :
    Calls Try.prog 93 #[A a, .int .i64 (k : Nat)] w (Gives (A (withS a k)) w) := by
  have := with_any ha (k : Int) (by omega) (by omega) w
  rwa [Int.toNat_natCast] at this
/-- one box, the result's place and the number that is made -/
def HC (w : World) (a x : Nat) (W : World) : Prop := H1 w a W ∧ Three (w.heap.size + 1) (.int .u64 0) (.int .u64 0) (.int .i64 0) W ∧ Two (w.heap.size + 1 + 1) x W
theorem HC.step {w : World} {a x : Nat} {W w2 : World} (hb : Below W.heap.size W w2) (h : HC w a x W) : HC w a x w2 := ⟨H1.step hb h.1, h.2.1.step hb, h.2.2.step hb⟩
theorem HC.put {w : World} {a x : Nat} {W : World} (h : HC w a x W) (y : Nat) : HC w a y ((W.setCell ⟨w.heap.size + 1 + 1, 0, none⟩ (.int .u64 (hi y : Nat))).setCell ⟨w.heap.size + 1 + 1, 1, none⟩ (.int .u64 (lo y : Nat))) := by
  obtain ⟨⟨h1, h2⟩, h4, h5⟩ := h
  exact ⟨⟨(h1.setCell (by dsimp only; omega) _).setCell (by dsimp only; omega) _, (h2.set (by dsimp only; omega) _).set (by dsimp only; omega) _⟩, three_set (three_set h4 (by dsimp only; omega) _) (by dsimp only; omega) _, h5.put y⟩
theorem hc_new (w : World) (a : Nat) (t u : TypeId) : HC w a 0 (((w.alloc (.cells #[.int .u64 (hi a : Nat), .int .u64 (lo a : Nat)] t)).alloc (.cells #[.int .u64 0, .int .u64 0, .int .i64 0] u)).alloc (.cells #[.int .u64 0, .int .u64 0] t)) := by
  have h := h1_new w a t
  generalize hv : w.alloc (.cells #[.int .u64 (hi a : Nat), .int .u64 (lo a : Nat)] t) = V at *
  have hs : V.heap.size = w.heap.size + 1 := by rw [← hv]; simp
  have h3 := three_new V (.int .u64 0) (.int .u64 0) (.int .i64 0) u
  have h4 := two_zero (V.alloc (.cells #[.int .u64 0, .int .u64 0, .int .i64 0] u)) t
  rw [hs] at h3
  rw [show (V.alloc (.cells #[.int .u64 0, .int .u64 0, .int .i64 0] u)).heap.size = w.heap.size + 1 + 1 by simp [hs]] at h4
  exact ⟨H1.step (below_alloc _ _) (H1.step (below_alloc _ _) h), h3.step (below_alloc _ _), h4⟩
set_option maxRecDepth 100000 in
set_option maxHeartbeats 1000000 in
theorem rclip_any {a : Nat} (ha : Fits a) (n : Int) (w : World) :
    Calls Try.prog 74 #[A a, .int .i64 n] w (Gives (.tuple #[Pv (clipA a n) (clipN n), .bool (okN n)]) w) := by
  by_cases h0 : n < 0
  · have K := hide (show okN n = false by unfold okN; simp; omega)
    have K1 := hide (show clipA a n = 0 by unfold clipA; rw [K.out]; rfl)
    have K2 := hide (show clipN n = 0 by unfold clipN; rw [K.out]; rfl)
    go_enter Try.func74, Try.ntmps74
    go_wp2
    refine bodyPost_ret (v := .tuple #[Pv (clipA a n) (clipN n), .bool (okN n)]) ?_ rfl ⟨rfl, ((Below.refl _ _).alloc (Nat.le_refl _) _).alloc (by simp) _⟩
    rw [K.out, K1.out, K2.out]
    simp [results, Try.results74, go_sem, hi_zero, lo_zero]
  by_cases h1 : 128 < n
  · have K := hide (show okN n = false by unfold okN; simp; omega)
    have K1 := hide (show clipA a n = 0 by unfold clipA; rw [K.out]; rfl)
    have K2 := hide (show clipN n = 0 by unfold clipN; rw [K.out]; rfl)
    go_enter Try.func74, Try.ntmps74
    go_wp2
    refine bodyPost_ret (v := .tuple #[Pv (clipA a n) (clipN n), .bool (okN n)]) ?_ rfl ⟨rfl, ((Below.refl _ _).alloc (Nat.le_refl _) _).alloc (by simp) _⟩
    rw [K.out, K1.out, K2.out]
    simp [results, Try.results74, go_sem, hi_zero, lo_zero]
  obtain ⟨m, rfl⟩ := Int.eq_ofNat_of_zero_le (by omega : 0 ≤ n)
  have hm : m ≤ 128 := by omega
  have hm2 : (m : Int) ≤ 128 := by omega
  have K := hide (show okN (m : Int) = true by unfold okN; simp; omega)
  have K1 := hide (show clipA a (m : Int) = clipS a m by unfold clipA; rw [K.out]; rfl)
  have K2 := hide (show clipN (m : Int) = m by unfold clipN; rw [K.out]; rfl)
  clear h0 h1
  go_enter Try.func74, Try.ntmps74
  go_wp2_with fail
  go_loopw [7] (fun i wr => ∃ k x : Nat, k ≤ m ∧ i = .int .i64 k ∧ Hid (x = clipS a k) ∧ HC w a x wr) (fun i _ => m - (intOf i).toNat)
  case atStart => exact ⟨0, 0, by omega, rfl, hide (clip_none ha).symm, hc_new w a _ _⟩
  case round =>
    obtain ⟨k, x, hk, rfl, E, HH⟩ := hrel
    obtain ⟨⟨HB, a0, a1, a2, a3, a4⟩, ⟨c0, c1, c2, c3, c4, c5, c6⟩, d0, d1, d2, d3, d4⟩ := id HH
    have HX := hide (show Fits x by rw [E.out]; exact fits_clipS ha _)
    by_cases hlt : k < m
    · have b1 := bitS_lt a k
      have hx : bitS a k = 0 ∨ bitS a k = 1 := by omega
      clear b1
      rcases hx with hx | hx
      · have A1 := hide hx
        clear hx
        go_wp2_with fail
        refine (bit_nat ha k 0 (by omega) A1.out _).mono ?_
        rintro e w2 ⟨rfl, hb2⟩
        go_wp2
        go_roundw
        case rel => exact ⟨k + 1, x, by omega, by go_num, hide (by rw [E.out]; exact (clip_skip (by omega) (by rw [A1.out]; omega)).symm), HC.step hb2 HH⟩
        case measure => simp [intOf]; omega
      · have A1 := hide hx
        clear hx
        go_wp2_with fail
        refine (bit_nat ha k 1 (by omega) A1.out _).mono ?_
        rintro e w2 ⟨rfl, hb2⟩
        clear HB a0 a1 a2 a3 a4 c0 c1 c2 c3 c4 c5 c6 d0 d1 d2 d3 d4
        have HF := HC.step hb2 HH
        obtain ⟨⟨HB, a0, a1, a2, a3, a4⟩, ⟨c0, c1, c2, c3, c4, c5, c6⟩, d0, d1, d2, d3, d4⟩ := id HF
        go_wp2_with fail
        refine (with_nat HX.out k (by omega) _).mono ?_
        rintro e w3 ⟨rfl, hb3⟩
        clear HB a0 a1 a2 a3 a4 c0 c1 c2 c3 c4 c5 c6 d0 d1 d2 d3 d4
        have HG := HC.step hb3 HF
        obtain ⟨⟨HB, a0, a1, a2, a3, a4⟩, ⟨c0, c1, c2, c3, c4, c5, c6⟩, d0, d1, d2, d3, d4⟩ := id HG
        go_wp2
        go_roundw
        case rel => exact ⟨k + 1, _, by omega, by go_num, hide (by rw [E.out]; exact clip_set (by omega) A1.out), HG.put _⟩
        case measure => simp [intOf]; omega
    · have e : k = m := by omega
      subst e
      have hx : x = clipS a k := E.out
      subst hx
      clear E
      go_wp2
      refine bodyPost_ret (v := .tuple #[Pv (clipA a (k : Int)) (clipN (k : Int)), .bool (okN (k : Int))]) ?_ rfl ⟨rfl, ((HB.setCell (by simp) _).setCell (by simp) _).setCell (by simp) _⟩
      rw [K.out, K1.out, K2.out]
      simp [results, Try.results74, go_sem, c0, c1, c2]
theorem words_of {p : Nat} {n : Int} {a : Nat} : hasS p n a = (okN n && (decide (hi (clipA a n) = hi p) && decide (lo (clipA a n) = lo p))) := has_words p n a
set_option maxHeartbeats 400000 in
theorem rsound_any {p : Nat} (hp : Fits p) (n : Int) (w : World) :
    Calls Try.prog 52 #[Pv p n] w (Gives (.bool (soundS p n)) w) := by
  have fin : ∀ w' : World, Below w.heap.size w w' → ∀ b : Bool, b = soundS p n → Gives (.bool (soundS p n)) w (.returned (.bool b)) w' := fun w' h b e => ⟨by rw [e], h⟩
  by_cases ho : okN n = true
  · have hn := clipN_ok ho
    have F := hide (fin)
    clear fin
    go_enter Try.func52, Try.ntmps52
    go_wp2_with fail
    refine (rclip_any hp n _).mono ?_
    rintro e w' ⟨rfl, hb⟩
    obtain ⟨hc, hf⟩ := bcell hb
    have hz0 : w.heap.size < w'.heap.size := by have := hb.size; simp at this; omega
    go_wp2
    all_goals go_ret
    all_goals refine F.out _ ((((Below.refl _ _).alloc (Nat.le_refl _) _).trans (hb.mono (by simp))).alloc (by omega) _) _ ?_
    all_goals (unfold soundS; rw [has_words]; simp [*]; try omega)
  · have hq : soundS p n = false := by unfold soundS hasS; simp [ho]
    have F := hide (fin)
    have Q := hide hq
    have ho : okN n = false := by simpa using ho
    clear fin hq
    go_enter Try.func52, Try.ntmps52
    go_wp2_with fail
    refine (rclip_any hp n _).mono ?_
    rintro e w' ⟨rfl, hb⟩
    obtain ⟨hc, hf⟩ := bcell hb
    have hz0 : w.heap.size < w'.heap.size := by have := hb.size; simp at this; omega
    go_wp2
    go_ret
    exact F.out _ ((((Below.refl _ _).alloc (Nat.le_refl _) _).trans (hb.mono (by simp))).alloc (by omega) _) _ Q.out.symm
theorem has_sound {p : Nat} {n : Int} {a : Nat} (h : hasS p n a = true) : soundS p n = true := by
  obtain ⟨h1, h2⟩ := has_iff.1 h
  exact sound_iff.2 ⟨h1, by rw [← h2]; exact clip_again⟩
theorem has_no {p : Nat} {n : Int} {a : Nat} (h : soundS p n = false) : hasS p n a = false := by
  cases e : hasS p n a with
  | false => rfl
  | true => rw [has_sound e] at h; cases h
end Go.Proofs.Ytcpldojgmboipaa
