/-
  Contracts of the document's own Clip, Sound, Has, Covers, Meets and Span: they return what the program's return. Condition: the words are words of 64 bits, an int is an int of 64 bits (every value of the types is such).
-/
import Derived.Test.YtlbconflbaohfaaAddrX1
import Derived.Test.YtlbconflbaohfaaAddrNestM
import Derived.BigQuiet
import Derived.Deep.QuietTactic
namespace Go.Proofs.Ytlbconflbaohfaa
open Go.RowKit

/-- one box, the result's place and the number that is made -/
def HC (w : World) (a x : Nat) (W : World) : Prop := H1 w a W ∧ Three (w.heap.size + 1) (.int .u64 0) (.int .u64 0) (.int .i64 0) W ∧ Two (w.heap.size + 1 + 1) x W
theorem HC.step {w : World} {a x : Nat} {W w2 : World} (hb : Below W.heap.size W w2) (h : HC w a x W) : HC w a x w2 := ⟨H1.step hb h.1, h.2.1.step hb, h.2.2.step hb⟩
theorem HC.put {w : World} {a x : Nat} {W : World} (h : HC w a x W) (y : Nat) : HC w a y ((W.setCell ⟨w.heap.size + 1 + 1, 0, none⟩ (.int .u64 (hi y : Nat))).setCell ⟨w.heap.size + 1 + 1, 1, none⟩ (.int .u64 (lo y : Nat))) := by
  obtain ⟨⟨h1, h2⟩, h4, h5⟩ := h
  exact ⟨⟨(h1.setCell (by dsimp only; omega) _).setCell (by dsimp only; omega) _, (h2.set (by dsimp only; omega) _).set (by dsimp only; omega) _⟩, three_set (three_set h4 (by dsimp only; omega) _) (by dsimp only; omega) _, h5.put y⟩
theorem hc_new (w : World) (a : Nat) (t u : TypeId) : HC w a 0 (((w.alloc (.cells #[.int .u64 (hi a : Nat), .int .u64 (lo a : Nat)] t)).alloc (.cells #[.int .u64 0, .int .u64 0, .int .i64 0] u)).alloc (.cells #[.int .u64 0, .int .u64 0] t)) := by
  have h := h1_new w a t
  generalize hv : w.alloc (.cells #[.int .u64 (hi a : Nat), .int .u64 (lo a : Nat)] t) = V at *
  have hs : V.heap.size = w.heap.size + 1 := by rw [← hv]; simp
  have h3 := three_new V (.int .u64 0) (.int .u64 0) (.int .i64 0) u
  have h4 := two_zero (V.alloc (.cells #[.int .u64 0, .int .u64 0, .int .i64 0] u)) t
  rw [hs] at h3
  rw [show (V.alloc (.cells #[.int .u64 0, .int .u64 0, .int .i64 0] u)).heap.size = w.heap.size + 1 + 1 by simp [hs]] at h4
  exact ⟨H1.step (below_alloc _ _) (H1.step (below_alloc _ _) h), h3.step (below_alloc _ _), h4⟩

set_option maxRecDepth 100000 in
set_option maxHeartbeats 1000000 in
theorem rclip_any {a : Nat} (ha : Fits a) (n : Int) (w : World) :
    Calls Try.prog 28 #[A a, .int .i64 n] w (Gives (.tuple #[Pv (clipA a n) (clipN n), .bool (okN n)]) w) := by
  by_cases h0 : n < 0
  · have K := hide (show okN n = false by unfold okN; simp; omega)
    have K1 := hide (show clipA a n = 0 by unfold clipA; rw [K.out]; rfl)
    have K2 := hide (show clipN n = 0 by unfold clipN; rw [K.out]; rfl)
    go_enter Try.func28, Try.ntmps28
    go_wp2
    refine bodyPost_ret (v := .tuple #[Pv (clipA a n) (clipN n), .bool (okN n)]) ?_ rfl ⟨rfl, ((Below.refl _ _).alloc (Nat.le_refl _) _).alloc (by simp) _⟩
    rw [K.out, K1.out, K2.out]
    simp [results, Try.results28, go_sem, hi_zero, lo_zero]
  by_cases h1 : 128 < n
  · have K := hide (show okN n = false by unfold okN; simp; omega)
    have K1 := hide (show clipA a n = 0 by unfold clipA; rw [K.out]; rfl)
    have K2 := hide (show clipN n = 0 by unfold clipN; rw [K.out]; rfl)
    go_enter Try.func28, Try.ntmps28
    go_wp2
    refine bodyPost_ret (v := .tuple #[Pv (clipA a n) (clipN n), .bool (okN n)]) ?_ rfl ⟨rfl, ((Below.refl _ _).alloc (Nat.le_refl _) _).alloc (by simp) _⟩
    rw [K.out, K1.out, K2.out]
    simp [results, Try.results28, go_sem, hi_zero, lo_zero]
  obtain ⟨m, rfl⟩ := Int.eq_ofNat_of_zero_le (by omega : 0 ≤ n)
  have hm : m ≤ 128 := by omega
  have hm2 : (m : Int) ≤ 128 := by omega
  have K := hide (show okN (m : Int) = true by unfold okN; simp; omega)
  have K1 := hide (show clipA a (m : Int) = clipS a m by unfold clipA; rw [K.out]; rfl)
  have K2 := hide (show clipN (m : Int) = m by unfold clipN; rw [K.out]; rfl)
  clear h0 h1
  go_enter Try.func28, Try.ntmps28
  go_wp2_with fail
  go_loopw [7] (fun i wr => ∃ k x : Nat, k ≤ m ∧ i = .int .i64 k ∧ Hid (x = clipS a k) ∧ HC w a x wr) (fun i _ => m - (intOf i).toNat)
  case atStart => exact ⟨0, 0, by omega, rfl, hide (clip_none ha).symm, hc_new w a _ _⟩
  case round =>
    obtain ⟨k, x, hk, rfl, E, HH⟩ := hrel
    obtain ⟨⟨HB, a0, a1, a2, a3, a4⟩, ⟨c0, c1, c2, c3, c4, c5, c6⟩, d0, d1, d2, d3, d4⟩ := id HH
    have HX := hide (show Fits x by rw [E.out]; exact fits_clipS ha _)
    by_cases hlt : k < m
    · have b1 := bitS_lt a k
      have hx : bitS a k = 0 ∨ bitS a k = 1 := by omega
      clear b1
      rcases hx with hx | hx
      · have A1 := hide hx
        clear hx
        go_wp2_with fail
        refine (bit_nat ha k 0 (by omega) A1.out _).mono ?_
        rintro e w2 ⟨rfl, hb2⟩
        go_wp2
        go_roundw
        case rel => exact ⟨k + 1, x, by omega, by go_num, hide (by rw [E.out]; exact (clip_skip (by omega) (by rw [A1.out]; omega)).symm), HC.step hb2 HH⟩
        case measure => simp [intOf]; omega
      · have A1 := hide hx
        clear hx
        go_wp2_with fail
        refine (bit_nat ha k 1 (by omega) A1.out _).mono ?_
        rintro e w2 ⟨rfl, hb2⟩
        clear HB a0 a1 a2 a3 a4 c0 c1 c2 c3 c4 c5 c6 d0 d1 d2 d3 d4
        have HF := HC.step hb2 HH
        obtain ⟨⟨HB, a0, a1, a2, a3, a4⟩, ⟨c0, c1, c2, c3, c4, c5, c6⟩, d0, d1, d2, d3, d4⟩ := id HF
        go_wp2_with fail
        refine (with_nat HX.out k (by omega) _).mono ?_
        rintro e w3 ⟨rfl, hb3⟩
        clear HB a0 a1 a2 a3 a4 c0 c1 c2 c3 c4 c5 c6 d0 d1 d2 d3 d4
        have HG := HC.step hb3 HF
        obtain ⟨⟨HB, a0, a1, a2, a3, a4⟩, ⟨c0, c1, c2, c3, c4, c5, c6⟩, d0, d1, d2, d3, d4⟩ := id HG
        go_wp2
        go_roundw
        case rel => exact ⟨k + 1, _, by omega, by go_num, hide (by rw [E.out]; exact clip_set (by omega) A1.out), HG.put _⟩
        case measure => simp [intOf]; omega
    · have e : k = m := by omega
      subst e
      have hx : x = clipS a k := E.out
      subst hx
      clear E
      go_wp2
      refine bodyPost_ret (v := .tuple #[Pv (clipA a (k : Int)) (clipN (k : Int)), .bool (okN (k : Int))]) ?_ rfl ⟨rfl, ((HB.setCell (by simp) _).setCell (by simp) _).setCell (by simp) _⟩
      rw [K.out, K1.out, K2.out]
      simp [results, Try.results28, go_sem, c0, c1, c2]

theorem words_of {p : Nat} {n : Int} {a : Nat} : hasS p n a = (okN n && (decide (hi (clipA a n) = hi p) && decide (lo (clipA a n) = lo p))) := has_words p n a

set_option maxHeartbeats 400000 in
theorem rsound_any {p : Nat} (hp : Fits p) (n : Int) (w : World) :
    Calls Try.prog 30 #[Pv p n] w (Gives (.bool (soundS p n)) w) := by
  have fin : ∀ w' : World, Below w.heap.size w w' → ∀ b : Bool, b = soundS p n → Gives (.bool (soundS p n)) w (.returned (.bool b)) w' := fun w' h b e => ⟨by rw [e], h⟩
  by_cases ho : okN n = true
  · have hn := clipN_ok ho
    have F := hide (fin)
    clear fin
    go_enter Try.func30, Try.ntmps30
    go_wp2_with fail
    refine (rclip_any hp n _).mono ?_
    rintro e w' ⟨rfl, hb⟩
    obtain ⟨hc, hf⟩ := bcell hb
    have hz0 : w.heap.size < w'.heap.size := by have := hb.size; simp at this; omega
    go_wp2
    all_goals go_ret
    all_goals refine F.out _ ((((Below.refl _ _).alloc (Nat.le_refl _) _).trans (hb.mono (by simp))).alloc (by omega) _) _ ?_
    all_goals (unfold soundS; rw [has_words]; simp [*]; try omega)
  · have hq : soundS p n = false := by unfold soundS hasS; simp [ho]
    have F := hide (fin)
    have Q := hide hq
    have ho : okN n = false := by simpa using ho
    clear fin hq
    go_enter Try.func30, Try.ntmps30
    go_wp2_with fail
    refine (rclip_any hp n _).mono ?_
    rintro e w' ⟨rfl, hb⟩
    obtain ⟨hc, hf⟩ := bcell hb
    have hz0 : w.heap.size < w'.heap.size := by have := hb.size; simp at this; omega
    go_wp2
    go_ret
    exact F.out _ ((((Below.refl _ _).alloc (Nat.le_refl _) _).trans (hb.mono (by simp))).alloc (by omega) _) _ Q.out.symm

theorem has_sound {p : Nat} {n : Int} {a : Nat} (h : hasS p n a = true) : soundS p n = true := by
  obtain ⟨h1, h2⟩ := has_iff.1 h
  exact sound_iff.2 ⟨h1, by rw [← h2]; exact clip_again⟩
theorem has_no {p : Nat} {n : Int} {a : Nat} (h : soundS p n = false) : hasS p n a = false := by
  cases e : hasS p n a with
  | false => rfl
  | true => rw [has_sound e] at h; cases h

set_option maxHeartbeats 400000 in
theorem rhas_any {p a : Nat} (hp : Fits p) (ha : Fits a) (n : Int) (w : World) :
    Calls Try.prog 36 #[Pv p n, A a] w (Gives (.bool (hasS p n a)) w) := by
  have fin : ∀ w' : World, Below w.heap.size w w' → ∀ b : Bool, b = hasS p n a → Gives (.bool (hasS p n a)) w (.returned (.bool b)) w' := fun w' h b e => ⟨by rw [e], h⟩
  have F := hide (fin)
  clear fin
  cases hs : soundS p n
  · have Q := hide (has_no (a := a) hs)
    go_enter Try.func36, Try.ntmps36
    go_wp2_with fail
    refine (rclip_any ha n _).mono ?_
    rintro e w' ⟨rfl, hb⟩
    obtain ⟨hc, hf⟩ := bcell hb
    have hz : w.heap.size + 1 < w'.heap.size := by have := hb.size; simp at this; omega
    have hz0 : w.heap.size < w'.heap.size := by omega
    go_wp2_with fail
    refine (rsound_any hp n _).mono ?_
    rintro e w2 ⟨rfl, hb2⟩
    go_wp2
    go_ret
    exact F.out _ (((((Below.refl _ _).alloc (Nat.le_refl _) _).alloc (by simp) _).trans (hb.mono (by simp; omega))).alloc (by omega) _ |>.trans (hb2.mono (by simp; omega))) _ Q.out.symm
  · have hok : okN n = true := okN_iff.2 (sound_iff.1 hs).1
    have hn := clipN_ok hok
    go_enter Try.func36, Try.ntmps36
    go_wp2_with fail
    refine (rclip_any ha n _).mono ?_
    rintro e w' ⟨rfl, hb⟩
    obtain ⟨hc, hf⟩ := bcell hb
    have hz : w.heap.size + 1 < w'.heap.size := by have := hb.size; simp at this; omega
    have hz0 : w.heap.size < w'.heap.size := by omega
    go_wp2_with fail
    refine (rsound_any hp n _).mono ?_
    rintro e w2 ⟨rfl, hb2⟩
    obtain ⟨hc2, hf2⟩ := bcell hb2
    have hy2 := hb2.size
    simp at hy2
    have hy : w.heap.size + 1 < w2.heap.size := by omega
    have hy0 : w.heap.size < w2.heap.size := by omega
    have hy1 : w'.heap.size < w2.heap.size := by omega
    go_wp2
    all_goals go_ret
    all_goals refine F.out _ (((((Below.refl _ _).alloc (Nat.le_refl _) _).alloc (by simp) _).trans (hb.mono (by simp; omega))).alloc (by omega) _ |>.trans (hb2.mono (by simp; omega))) _ ?_
    all_goals (rw [has_words]; simp [*]; try omega)

set_option maxHeartbeats 400000 in
theorem rcovers_any {p q : Nat} (hp : Fits p) (hq : Fits q) (n m : Int) (w : World) :
    Calls Try.prog 38 #[Pv p n, Pv q m] w (Gives (.bool (coversS p n q m)) w) := by
  have fin : ∀ (w' : World) (b : Bool), Below w.heap.size w w' → b = coversS p n q m → Gives (.bool (coversS p n q m)) w (.returned (.bool b)) w' := fun w' b h e => ⟨by rw [e], h⟩
  have F := hide (fin)
  clear fin
  go_enter Try.func38, Try.ntmps38
  go_wp2_with fail
  refine (rsound_any hq m _).mono ?_
  rintro e w' ⟨rfl, hb⟩
  obtain ⟨hc, hf⟩ := bcell hb
  have hz : w.heap.size + 1 < w'.heap.size := by have := hb.size; simp at this; omega
  have hz0 : w.heap.size < w'.heap.size := by omega
  go_wp2_with (go_at_call 36; refine (rhas_any (p := p) hp hq n _).mono ?_; rintro e w2 ⟨rfl, hb2⟩)
  all_goals go_ret
  all_goals refine F.out _ _ ?_ ?_
  all_goals first
    | exact ((((Below.refl _ _).alloc (Nat.le_refl _) _).alloc (by simp) _).trans (hb.mono (by simp; omega))).trans (hb2.mono (by omega))
    | exact (((Below.refl _ _).alloc (Nat.le_refl _) _).alloc (by simp) _).trans (hb.mono (by simp; omega))
    | (unfold coversS; simp [*]; done)
    | (unfold coversS; simp [*]; omega)

set_option maxHeartbeats 400000 in
theorem rmeets_any {p q : Nat} (hp : Fits p) (hq : Fits q) (n m : Int) (w : World) :
    Calls Try.prog 40 #[Pv p n, Pv q m] w (Gives (.bool (meetsS p n q m)) w) := by
  have fin : ∀ (w' : World) (b : Bool), Below w.heap.size w w' → b = meetsS p n q m → Gives (.bool (meetsS p n q m)) w (.returned (.bool b)) w' := fun w' b h e => ⟨by rw [e], h⟩
  have F := hide (fin)
  clear fin
  go_enter Try.func40, Try.ntmps40
  go_wp2_with fail
  refine (rcovers_any hp hq n m _).mono ?_
  rintro e w' ⟨rfl, hb⟩
  obtain ⟨hc, hf⟩ := bcell hb
  have hz : w.heap.size + 1 < w'.heap.size := by have := hb.size; simp at this; omega
  have hz0 : w.heap.size < w'.heap.size := by omega
  go_wp2_with (go_at_call 38; refine (rcovers_any hq hp m n _).mono ?_; rintro e w2 ⟨rfl, hb2⟩)
  all_goals go_ret
  all_goals refine F.out _ _ ?_ ?_
  all_goals first
    | exact ((((Below.refl _ _).alloc (Nat.le_refl _) _).alloc (by simp) _).trans (hb.mono (by simp; omega))).trans (hb2.mono (by omega))
    | exact (((Below.refl _ _).alloc (Nat.le_refl _) _).alloc (by simp) _).trans (hb.mono (by simp; omega))
    | (unfold meetsS; simp [*]; done)
    | (unfold meetsS; simp [*]; omega)

/-! ### the addresses of a prefix -/
def Four (g : Nat) (W : World) : Prop := W.cell? ⟨g, 0, none⟩ = some (.int .u64 0) ∧ W.cell? ⟨g, 1, none⟩ = some (.int .u64 0) ∧ W.cell? ⟨g, 2, none⟩ = some (.int .u64 0) ∧ W.cell? ⟨g, 3, none⟩ = some (.int .u64 0) ∧
  W.frozen? ⟨g, 0, none⟩ = false ∧ W.frozen? ⟨g, 1, none⟩ = false ∧ W.frozen? ⟨g, 2, none⟩ = false ∧ W.frozen? ⟨g, 3, none⟩ = false ∧ g < W.heap.size
theorem Four.step {g : Nat} {W w2 : World} (h : Four g W) (hb : Below W.heap.size W w2) : Four g w2 := by
  obtain ⟨h1, h2, h3, h4, f1, f2, f3, f4, h5⟩ := h
  have z := hb.size
  exact ⟨cell_keep hb h1, cell_keep hb h2, cell_keep hb h3, cell_keep hb h4, free_keep hb h5 f1, free_keep hb h5 f2, free_keep hb h5 f3, free_keep hb h5 f4, by omega⟩
theorem four_new (V : World) (t : TypeId) : Four V.heap.size (V.alloc (.cells #[.int .u64 0, .int .u64 0, .int .u64 0, .int .u64 0] t)) := by
  refine ⟨by simp, by simp, by simp, by simp, ?_, ?_, ?_, ?_, by simp⟩ <;> simp [go_sem]
theorem Four.set {g : Nat} {W : World} (h : Four g W) {p : Addr} (hp : g ≠ p.block) (u : Value) : Four g (W.setCell p u) := by
  obtain ⟨h1, h2, h3, h4, f1, f2, f3, f4, h5⟩ := h
  have k : ∀ o, (W.setCell p u).cell? ⟨g, o, none⟩ = W.cell? ⟨g, o, none⟩ := fun o => World.cell?_of_block (w := W) (Below.heap_setCell W p u g hp)
  have f : ∀ o, (W.setCell p u).frozen? ⟨g, o, none⟩ = W.frozen? ⟨g, o, none⟩ := fun o => World.frozen?_of_block (w := W) (Below.heap_setCell W p u g hp)
  exact ⟨by rw [k]; exact h1, by rw [k]; exact h2, by rw [k]; exact h3, by rw [k]; exact h4, by rw [f]; exact f1, by rw [f]; exact f2, by rw [f]; exact f3, by rw [f]; exact f4, by simp; exact h5⟩
def HS (w : World) (p : Nat) (n : Int) (g x : Nat) (W : World) : Prop := Below w.heap.size w W ∧ Three w.heap.size (.int .u64 (hi p : Nat)) (.int .u64 (lo p : Nat)) (.int .i64 n) W ∧ Four (w.heap.size + 1) W ∧ Two g x W ∧ w.heap.size + 1 < g
theorem HS.step {w : World} {p : Nat} {n : Int} {g x : Nat} {W w2 : World} (hb : Below W.heap.size W w2) (h : HS w p n g x W) : HS w p n g x w2 := ⟨h.1.trans (hb.mono h.1.size), h.2.1.step hb, h.2.2.1.step hb, h.2.2.2.1.step hb, h.2.2.2.2⟩
theorem HS.put {w : World} {p : Nat} {n : Int} {g x : Nat} {W : World} (h : HS w p n g x W) (y : Nat) : HS w p n g y ((W.setCell ⟨g, 0, none⟩ (.int .u64 (hi y : Nat))).setCell ⟨g, 1, none⟩ (.int .u64 (lo y : Nat))) := by
  obtain ⟨h1, h2, h4, h5, l⟩ := h
  exact ⟨(h1.setCell (by dsimp only; omega) _).setCell (by dsimp only; omega) _, three_set (three_set h2 (by dsimp only; omega) _) (by dsimp only; omega) _, (h4.set (by dsimp only; omega) _).set (by dsimp only; omega) _, h5.put y, l⟩
theorem fits_spanS {p n i : Nat} (hp : Fits p) (h : clipS p n = p) (hn : n ≤ 128) (_hi : i ≤ 128) : Fits (spanS p n i) := by
  have h1 := fits_lastS hp h hn
  have h2 : (1 : Nat) ≤ 2 ^ (128 - i) := pow_pos _
  have h3 : (1 : Nat) ≤ 2 ^ (128 - n) := pow_pos _
  unfold Fits lastS spanS at *
  omega

set_option maxRecDepth 100000 in
set_option maxHeartbeats 1000000 in
theorem rspan_any {p : Nat} (hp : Fits p) (n : Int) (w : World) :
    Calls Try.prog 32 #[Pv p n] w (Gives (Rv (firstA p n) (lastA p n)) w) := by
  by_cases hs : soundS p n = true
  · have ⟨⟨hn0, hn1⟩, hc0⟩ := sound_iff.1 hs
    obtain ⟨m, rfl⟩ := Int.eq_ofNat_of_zero_le hn0
    rw [Int.toNat_natCast] at hc0
    have hm : m ≤ 128 := by omega
    have K1 := hide (show firstA p (m : Int) = p by unfold firstA; rw [if_pos hs])
    have K2 := hide (show lastA p (m : Int) = lastS p m by unfold lastA; rw [if_pos hs]; rfl)
    have HC0 := hide hc0
    clear hc0
    go_enter Try.func32, Try.ntmps32
    go_wp2_with fail
    refine (rsound_any hp (m : Int) _).mono ?_
    rintro e w' ⟨rfl, hb⟩
    have T0 := ((three_new w (.int .u64 (hi p : Nat)) (.int .u64 (lo p : Nat)) (.int .i64 (m : Int)) 36).step (below_alloc _ (.cells #[.int .u64 0, .int .u64 0, .int .u64 0, .int .u64 0] 41))).step hb
    have T1 := four_new (w.alloc (.cells #[.int .u64 (hi p : Nat), .int .u64 (lo p : Nat), .int .i64 (m : Int)] 36)) 41
    rw [show (w.alloc (.cells #[.int .u64 (hi p : Nat), .int .u64 (lo p : Nat), .int .i64 (m : Int)] 36)).heap.size = w.heap.size + 1 by simp] at T1
    have T1 := T1.step hb
    have TB : Below w.heap.size w w' := (((Below.refl _ _).alloc (Nat.le_refl _) _).alloc (by simp) _).trans (hb.mono (by simp; omega))
    clear hb
    obtain ⟨a0, a1, a2, a3, a4, a5, a6⟩ := id T0
    obtain ⟨b0, b1, b2, b3, b4, b5, b6, b7, b8⟩ := id T1
    go_wp2_with fail
    go_loopw [4] (fun i wr => ∃ k x : Nat, m ≤ k ∧ k ≤ 128 ∧ i = .int .i64 k ∧ Hid (x = spanS p m k) ∧ HS w p (m : Int) w'.heap.size x wr) (fun i _ => 128 - (intOf i).toNat)
    case atStart => exact ⟨m, p, by omega, hm, rfl, hide (span_start p m).symm, TB.alloc TB.size _, T0.step (below_alloc _ _), T1.step (below_alloc _ _), two_new _ _ _, b8⟩
    case round =>
      clear a0 a1 a2 a3 a4 a5 a6 b0 b1 b2 b3 b4 b5 b6 b7
      generalize w'.heap.size = g at *
      obtain ⟨k, x, hk0, hk, rfl, E, HH⟩ := hrel
      obtain ⟨HB, ⟨a0, a1, a2, a3, a4, a5, a6⟩, ⟨b0, b1, b2, b3, b4, b5, b6, b7, b9⟩, ⟨d0, d1, d2, d3, d4⟩, l⟩ := id HH
      have HX := hide (show Fits x by rw [E.out]; exact fits_spanS hp HC0.out hm hk)
      by_cases hlt : k < 128
      · go_wp2_with fail
        refine (with_nat HX.out k hlt _).mono ?_
        rintro e w3 ⟨rfl, hb3⟩
        clear HB a0 a1 a2 a3 a4 a5 a6 b0 b1 b2 b3 b4 b5 b6 b7 b9 d0 d1 d2 d3 d4 l
        have HG := HS.step hb3 HH
        obtain ⟨HB, ⟨a0, a1, a2, a3, a4, a5, a6⟩, ⟨b0, b1, b2, b3, b4, b5, b6, b7, b9⟩, ⟨d0, d1, d2, d3, d4⟩, l⟩ := id HG
        go_wp2
        go_roundw
        case rel => exact ⟨k + 1, _, by omega, by omega, by go_num, hide (by rw [E.out]; exact span_set HC0.out hk0 hlt), HG.put _⟩
        case measure => simp [intOf]; omega
      · have e : k = 128 := by omega
        subst e
        have hx : x = lastS p m := by rw [E.out]; exact span_end p m
        subst hx
        clear E
        go_wp2
        refine bodyPost_ret (v := Rv (firstA p (m : Int)) (lastA p (m : Int))) ?_ rfl ⟨rfl, (((HB.setCell (by simp) _).setCell (by simp) _).setCell (by simp) _).setCell (by simp) _⟩
        rw [K1.out, K2.out]
        simp [results, Try.results32, go_sem, b0, b1, b2, b3]
  · have hs : soundS p n = false := by simpa using hs
    have K1 := hide (show firstA p n = 0 by unfold firstA; rw [if_neg (by simp [hs])])
    have K2 := hide (show lastA p n = 0 by unfold lastA; rw [if_neg (by simp [hs])])
    go_enter Try.func32, Try.ntmps32
    go_wp2_with fail
    refine (rsound_any hp n _).mono ?_
    rintro e w' ⟨rfl, hb⟩
    obtain ⟨hc, hf⟩ := bcell hb
    have hz : w.heap.size + 1 < w'.heap.size := by have := hb.size; simp at this; omega
    have hz0 : w.heap.size < w'.heap.size := by omega
    go_wp2
    refine bodyPost_ret (v := Rv (firstA p n) (lastA p n)) ?_ rfl ⟨rfl, ?_⟩
    · rw [K1.out, K2.out]
      simp [results, Try.results32, go_sem, hc, hi_zero, lo_zero]
    · exact ((((((((Below.refl _ _).alloc (Nat.le_refl _) _).alloc (by simp) _).trans (hb.mono (by simp; omega))).setCell (by simp) _).setCell (by simp) _).setCell (by simp) _).setCell (by simp) _)

end Go.Proofs.Ytlbconflbaohfaa
