/-
  Contracts of the calls on prefixes (Clip, Has, Sound, Span, Covers, Meets, Halves): what each returns for every value of the types, and that no memory that existed is changed. Condition of each: the words are words of 64 bits (every value of the type is such), an int is an int of 64 bits.
-/
import Derived.Test.YtlbconflbaohfaaAddrD
namespace Go.Proofs.Ytlbconflbaohfaa
open Go.RowKit

/-- a prefix as the program holds it -/
abbrev Pv (p : Nat) (n : Int) : Value := .agg #[.int .u64 (hi p : Nat), .int .u64 (lo p : Nat), .int .i64 n]
abbrev Rv (a b : Nat) : Value := .agg #[.int .u64 (hi a : Nat), .int .u64 (lo a : Nat), .int .u64 (hi b : Nat), .int .u64 (lo b : Nat)]

set_option maxHeartbeats 400000 in
theorem clip_any {a : Nat} (ha : Fits a) (n : Int) (w : World) :
    Calls Try.prog 27 #[A a, .int .i64 n] w (Gives (.tuple #[Pv (clipA a n) (clipN n), .bool (okN n)]) w) := by
  by_cases h0 : n < 0
  · have K := hide (show okN n = false by unfold okN; simp; omega)
    have K1 := hide (show clipA a n = 0 by unfold clipA; rw [K.out]; rfl)
    have K2 := hide (show clipN n = 0 by unfold clipN; rw [K.out]; rfl)
    go_enter Try.func27, Try.ntmps27
    go_wp2
    refine bodyPost_ret (v := .tuple #[Pv (clipA a n) (clipN n), .bool (okN n)]) ?_ rfl ⟨rfl, ((Below.refl _ _).alloc (Nat.le_refl _) _).alloc (by simp) _⟩
    rw [K.out, K1.out, K2.out]
    simp [results, Try.results27, go_sem, hi_zero, lo_zero]
  by_cases h1 : 128 < n
  · have K := hide (show okN n = false by unfold okN; simp; omega)
    have K1 := hide (show clipA a n = 0 by unfold clipA; rw [K.out]; rfl)
    have K2 := hide (show clipN n = 0 by unfold clipN; rw [K.out]; rfl)
    go_enter Try.func27, Try.ntmps27
    go_wp2
    refine bodyPost_ret (v := .tuple #[Pv (clipA a n) (clipN n), .bool (okN n)]) ?_ rfl ⟨rfl, ((Below.refl _ _).alloc (Nat.le_refl _) _).alloc (by simp) _⟩
    rw [K.out, K1.out, K2.out]
    simp [results, Try.results27, go_sem, hi_zero, lo_zero]
  · have h0 : 0 ≤ n := by omega
    have h1 : n ≤ 128 := by omega
    have K := hide (show okN n = true by unfold okN; simp; omega)
    have K1 := hide (show clipA a n = clipS a n.toNat by unfold clipA; rw [K.out]; rfl)
    have K2 := hide (show clipN n = n by unfold clipN; rw [K.out]; rfl)
    have K3 := hide (w_clip_hi ha (show n.toNat ≤ 128 by omega))
    have K4 := hide (w_clip_lo ha (show n.toNat ≤ 128 by omega))
    go_enter Try.func27, Try.ntmps27
    go_wp2_with fail
    refine (tail_any n (by unfold I63; omega) _).mono ?_
    rintro e w' ⟨rfl, hb⟩
    obtain ⟨hc, hf⟩ := bcell hb
    have hz : w.heap.size + 1 < w'.heap.size := by have := hb.size; simp at this; omega
    have hz0 : w.heap.size < w'.heap.size := by omega
    go_wp2
    refine bodyPost_ret (v := .tuple #[Pv (clipA a n) (clipN n), .bool (okN n)]) ?_ rfl ⟨rfl, ?_⟩
    · rw [K.out, K1.out, K2.out]
      simp [results, Try.results27, go_sem, hc, hz, K3.out, K4.out]
    · exact (((((((Below.refl _ _).alloc (Nat.le_refl _) _).alloc (by simp) _).trans (hb.mono (by simp; omega))).setCell (by simp) _).setCell (by simp) _).setCell (by simp) _).alloc (by simp; omega) _

theorem has_words (p : Nat) (n : Int) (a : Nat) : hasS p n a = (okN n && (decide (hi (clipA a n) = hi p) && decide (lo (clipA a n) = lo p))) := by
  unfold hasS
  by_cases h : okN n = true
  · have e : clipA a n = clipS a n.toNat := by unfold clipA; rw [if_pos h]
    rw [h, e, Bool.true_and, Bool.true_and]
    by_cases k : clipS a n.toNat = p
    · rw [k]; simp
    · rw [decide_eq_false k]
      symm
      rw [Bool.and_eq_false_iff]
      by_cases k1 : hi (clipS a n.toNat) = hi p
      · right
        exact decide_eq_false fun k2 => k (eq_of_words k1 k2)
      · left; exact decide_eq_false k1
  · simp [h]
theorem clipN_ok {n : Int} (h : okN n = true) : clipN n = n := by unfold clipN; rw [if_pos h]

set_option maxHeartbeats 400000 in
theorem has_any {p a : Nat} (ha : Fits a) (n : Int) (w : World) :
    Calls Try.prog 35 #[Pv p n, A a] w (Gives (.bool (hasS p n a)) w) := by
  have fin : ∀ w' : World, Below w.heap.size w w' → ∀ b : Bool, b = hasS p n a → Gives (.bool (hasS p n a)) w (.returned (.bool b)) w' := fun w' h b e => ⟨by rw [e], h⟩
  have hk : ∀ b : Bool, okN n = b → okN n = b := fun _ h => h
  by_cases ho : okN n = true
  · have hn := clipN_ok ho
    have F := hide (fin)
    clear fin hk
    go_enter Try.func35, Try.ntmps35
    go_wp2_with fail
    refine (clip_any ha n _).mono ?_
    rintro e w' ⟨rfl, hb⟩
    obtain ⟨hc, hf⟩ := bcell hb
    have hz : w.heap.size + 1 < w'.heap.size := by have := hb.size; simp at this; omega
    have hz0 : w.heap.size < w'.heap.size := by omega
    go_wp2
    all_goals go_ret
    all_goals refine F.out _ (((((Below.refl _ _).alloc (Nat.le_refl _) _).alloc (by simp) _).trans (hb.mono (by simp; omega))).alloc (by omega) _) _ ?_
    all_goals (rw [has_words]; simp [*]; try omega)
  · have hq : hasS p n a = false := by unfold hasS; simp [ho]
    have F := hide (fin)
    have Q := hide hq
    have ho : okN n = false := by simpa using ho
    clear fin hk hq
    go_enter Try.func35, Try.ntmps35
    go_wp2_with fail
    refine (clip_any ha n _).mono ?_
    rintro e w' ⟨rfl, hb⟩
    obtain ⟨hc, hf⟩ := bcell hb
    have hz : w.heap.size + 1 < w'.heap.size := by have := hb.size; simp at this; omega
    have hz0 : w.heap.size < w'.heap.size := by omega
    go_wp2
    go_ret
    exact F.out _ (((((Below.refl _ _).alloc (Nat.le_refl _) _).alloc (by simp) _).trans (hb.mono (by simp; omega))).alloc (by omega) _) _ Q.out.symm

set_option maxHeartbeats 400000 in
theorem sound_any {p : Nat} (hp : Fits p) (n : Int) (w : World) :
    Calls Try.prog 29 #[Pv p n] w (Gives (.bool (soundS p n)) w) := by
  go_enter Try.func29, Try.ntmps29
  go_wp2_with fail
  refine (has_any (p := p) hp n _).mono ?_
  rintro e w' ⟨rfl, hb⟩
  go_wp2
  go_ret
  exact ⟨rfl, ((Below.refl _ _).alloc (Nat.le_refl _) _).trans (hb.mono (by simp))⟩

set_option maxHeartbeats 400000 in
theorem span_any {p : Nat} (hp : Fits p) (n : Int) (w : World) :
    Calls Try.prog 31 #[Pv p n] w (Gives (Rv (firstA p n) (lastA p n)) w) := by
  by_cases hs : soundS p n = true
  · have ⟨⟨hn0, hn1⟩, hc0⟩ := sound_iff.1 hs
    have K1 := hide (show firstA p n = p by unfold firstA; rw [if_pos hs])
    have K2 := hide (show lastA p n = lastS p n.toNat by unfold lastA; rw [if_pos hs])
    have K3 := hide (w_last_hi hp hc0 (by omega))
    have K4 := hide (w_last_lo hc0 (by omega))
    clear hc0
    go_enter Try.func31, Try.ntmps31
    go_wp2_with fail
    refine (sound_any hp n _).mono ?_
    rintro e w' ⟨rfl, hb⟩
    obtain ⟨hc, hf⟩ := bcell hb
    have hz : w.heap.size + 1 < w'.heap.size := by have := hb.size; simp at this; omega
    have hz0 : w.heap.size < w'.heap.size := by omega
    go_wp2_with fail
    refine (tail_any n (by unfold I63; omega) _).mono ?_
    rintro e w2 ⟨rfl, hb2⟩
    obtain ⟨hc2, hf2⟩ := bcell hb2
    have hy : w.heap.size + 1 < w2.heap.size := by have := hb2.size; omega
    have hy0 : w.heap.size < w2.heap.size := by omega
    go_wp2
    refine bodyPost_ret (v := Rv (firstA p n) (lastA p n)) ?_ rfl ⟨rfl, ?_⟩
    · rw [K1.out, K2.out]
      simp [results, Try.results31, go_sem, hc, hc2, hz, hy, K3.out, K4.out]
    · exact ((((((((((Below.refl _ _).alloc (Nat.le_refl _) _).alloc (by simp) _).trans (hb.mono (by simp; omega))).trans (hb2.mono (by omega))).setCell (by simp) _).setCell (by simp) _).setCell (by simp) _).setCell (by simp) _).alloc (by simp; omega) _)
  · have hs : soundS p n = false := by simpa using hs
    have K1 := hide (show firstA p n = 0 by unfold firstA; rw [if_neg (by simp [hs])])
    have K2 := hide (show lastA p n = 0 by unfold lastA; rw [if_neg (by simp [hs])])
    go_enter Try.func31, Try.ntmps31
    go_wp2_with fail
    refine (sound_any hp n _).mono ?_
    rintro e w' ⟨rfl, hb⟩
    obtain ⟨hc, hf⟩ := bcell hb
    have hz : w.heap.size + 1 < w'.heap.size := by have := hb.size; simp at this; omega
    have hz0 : w.heap.size < w'.heap.size := by omega
    go_wp2
    refine bodyPost_ret (v := Rv (firstA p n) (lastA p n)) ?_ rfl ⟨rfl, ?_⟩
    · rw [K1.out, K2.out]
      simp [results, Try.results31, go_sem, hc, hi_zero, lo_zero]
    · exact ((((((((Below.refl _ _).alloc (Nat.le_refl _) _).alloc (by simp) _).trans (hb.mono (by simp; omega))).setCell (by simp) _).setCell (by simp) _).setCell (by simp) _).setCell (by simp) _)

set_option maxHeartbeats 400000 in
theorem covers_any {p q : Nat} (hq : Fits q) (n m : Int) (w : World) :
    Calls Try.prog 37 #[Pv p n, Pv q m] w (Gives (.bool (coversS p n q m)) w) := by
  have fin : ∀ (w' : World) (b : Bool), Below w.heap.size w w' → b = coversS p n q m → Gives (.bool (coversS p n q m)) w (.returned (.bool b)) w' := fun w' b h e => ⟨by rw [e], h⟩
  have F := hide (fin)
  clear fin
  go_enter Try.func37, Try.ntmps37
  go_wp2_with fail
  refine (sound_any hq m _).mono ?_
  rintro e w' ⟨rfl, hb⟩
  obtain ⟨hc, hf⟩ := bcell hb
  have hz : w.heap.size + 1 < w'.heap.size := by have := hb.size; simp at this; omega
  have hz0 : w.heap.size < w'.heap.size := by omega
  go_wp2_with (go_at_call 35; refine (has_any (p := p) hq n _).mono ?_; rintro e w2 ⟨rfl, hb2⟩)
  all_goals go_ret
  all_goals refine F.out _ _ ?_ ?_
  all_goals first
    | exact ((((Below.refl _ _).alloc (Nat.le_refl _) _).alloc (by simp) _).trans (hb.mono (by simp; omega))).trans (hb2.mono (by omega))
    | exact (((Below.refl _ _).alloc (Nat.le_refl _) _).alloc (by simp) _).trans (hb.mono (by simp; omega))
    | (unfold coversS; simp [*]; done)
    | (unfold coversS; simp [*]; omega)

set_option maxHeartbeats 400000 in
theorem meets_any {p q : Nat} (hp : Fits p) (hq : Fits q) (n m : Int) (w : World) :
    Calls Try.prog 39 #[Pv p n, Pv q m] w (Gives (.bool (meetsS p n q m)) w) := by
  have fin : ∀ (w' : World) (b : Bool), Below w.heap.size w w' → b = meetsS p n q m → Gives (.bool (meetsS p n q m)) w (.returned (.bool b)) w' := fun w' b h e => ⟨by rw [e], h⟩
  have F := hide (fin)
  clear fin
  go_enter Try.func39, Try.ntmps39
  go_wp2_with fail
  refine (covers_any (p := p) hq n m _).mono ?_
  rintro e w' ⟨rfl, hb⟩
  obtain ⟨hc, hf⟩ := bcell hb
  have hz : w.heap.size + 1 < w'.heap.size := by have := hb.size; simp at this; omega
  have hz0 : w.heap.size < w'.heap.size := by omega
  go_wp2_with (go_at_call 37; refine (covers_any (p := q) hp m n _).mono ?_; rintro e w2 ⟨rfl, hb2⟩)
  all_goals go_ret
  all_goals refine F.out _ _ ?_ ?_
  all_goals first
    | exact ((((Below.refl _ _).alloc (Nat.le_refl _) _).alloc (by simp) _).trans (hb.mono (by simp; omega))).trans (hb2.mono (by omega))
    | exact (((Below.refl _ _).alloc (Nat.le_refl _) _).alloc (by simp) _).trans (hb.mono (by simp; omega))
    | (unfold meetsS; simp [*]; done)
    | (unfold meetsS; simp [*]; omega)

end Go.Proofs.Ytlbconflbaohfaa
