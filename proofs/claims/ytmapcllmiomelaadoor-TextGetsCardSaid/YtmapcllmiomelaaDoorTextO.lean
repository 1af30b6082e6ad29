/-
  Contract of Put6: an address of 128 bits as a text. Conditions: the library's variables hold what is laid; the words are words of 64 bits.
-/
import Derived.Test.YtmapcllmiomelaaDoorTextM
import Derived.Test.YtmapcllmiomelaaDoorTextL
namespace Go.Proofs.YtmapcllmiomelaaDoor
open Go.RowKit Go.Joins

theorem gapS_le (g : Nat → Nat) : ∀ k, (gapS g k).1 ≤ (gapS g k).2.1 ∧ (gapS g k).2.1 ≤ k ∧ (gapS g k).2.2 ≤ k
  | 0 => by simp [gapS]
  | k + 1 => by
    have := gapS_le g k
    obtain ⟨F, T, B, h⟩ : ∃ F T B, gapS g k = (F, T, B) := ⟨_, _, _, rfl⟩
    rw [h] at this
    simp only at this
    rw [gap_step h rfl]
    split <;> split <;> simp only <;> omega
def rowA (g : Nat → Nat) (from_ n : Nat) : List Nat := (List.range n).map fun j => g (from_ + j)
theorem rowA_len (g : Nat → Nat) (o n : Nat) : (rowA g o n).length = n := by simp [rowA]
theorem rowA_get {g : Nat → Nat} {o n j x : Nat} (h : (rowA g o n)[j]? = some x) : j < n ∧ x = g (o + j) := by
  unfold rowA at h
  rw [List.getElem?_map] at h
  by_cases hj : j < n
  · rw [List.getElem?_range hj] at h
    simp at h
    exact ⟨hj, h.symm⟩
  · rw [List.getElem?_eq_none (by simp; omega)] at h
    cases h
theorem rowA_lt (a o n : Nat) : ∀ x ∈ rowA (grpA a) o n, x < 65536 := by
  intro x hx
  obtain ⟨j, _, rfl⟩ := List.mem_map.1 hx
  exact grpA_lt _ _
/-- the text of an address of 128 bits -/
def put6L (a : Nat) : List UInt8 :=
  if (gapS (grpA a) 8).2.1 - (gapS (grpA a) 8).1 < 2 then putG (rowA (grpA a) 0 8)
  else putG (rowA (grpA a) 0 (gapS (grpA a) 8).1) ++ [58, 58] ++ putG (rowA (grpA a) (gapS (grpA a) 8).2.1 (8 - (gapS (grpA a) 8).2.1))

/-- the block of the groups -/
def HG (w : World) (b : Nat) (f : Nat → Nat) (W : World) : Prop := Below w.heap.size w W ∧ w.heap.size ≤ b ∧ Row8 b f W
theorem HG.step {w : World} {b : Nat} {f : Nat → Nat} {W w2 : World} (h : HG w b f W) (hb : Below W.heap.size W w2) : HG w b f w2 := ⟨h.1.trans (hb.mono h.1.size), h.2.1, h.2.2.step hb⟩
theorem HG.drew {w : World} {b : Nat} {f : Nat → Nat} {W : World} (h : HG w b f W) : HG w b f { W with drawn := W.drawn + 1 } := h.step (Below.refl _ _).drew
theorem hg_full {w W : World} (h : Below w.heap.size w W) (f : Nat → Nat) (t : TypeId) : HG w W.heap.size f (W.alloc (.cells #[.int .u16 (f 0 : Nat), .int .u16 (f 1 : Nat), .int .u16 (f 2 : Nat), .int .u16 (f 3 : Nat), .int .u16 (f 4 : Nat), .int .u16 (f 5 : Nat), .int .u16 (f 6 : Nat), .int .u16 (f 7 : Nat)] t)) := by
  refine ⟨chain h (below_alloc _ _), h.size, by simp, fun j hj => ?_⟩
  have : j = 0 ∨ j = 1 ∨ j = 2 ∨ j = 3 ∨ j = 4 ∨ j = 5 ∨ j = 6 ∨ j = 7 := by omega
  rcases this with rfl | rfl | rfl | rfl | rfl | rfl | rfl | rfl <;> simp [go_sem]
theorem cat3 (l1 l2 : List UInt8) : (ByteArray.mk l1.toArray ++ ByteArray.mk #[58, 58] ++ ByteArray.mk l2.toArray) = ⟨(l1 ++ [58, 58] ++ l2).toArray⟩ := by
  apply ByteArray.ext
  simp [ByteArray.data_append]
theorem slice_lo8 (g q : Nat) (hq : q ≤ 8) : ∃ o : Nat, (∀ W : World, (Instr.sliceAt 60 (.pointer (some ⟨g, 0, none⟩)) (some (.int .i64 (q : Int))) none none).run Tryd.prog W = .ok (.slice (some ⟨g, o, none⟩) (8 - q) (8 - q)) W) ∧ (q < 8 → o = q) := by
  obtain ⟨sa, h, e⟩ := slice_low g q hq
  by_cases hl : q < 8
  · exact ⟨q, by rw [← e hl]; exact h, fun _ => rfl⟩
  · refine ⟨0, fun W => ?_, fun h => absurd h hl⟩
    have q8 : q = 8 := by omega
    subst q8
    exact show (Instr.sliceAt 60 (.pointer (some ⟨g, 0, none⟩)) (some (.int .i64 8)) none none).run Tryd.prog W = .ok (.slice (some ⟨g, 0, none⟩) 0 0) W by kernel_rfl
theorem slice_hi8 (g q : Nat) (hq : q ≤ 8) (W : World) : (Instr.sliceAt 60 (.pointer (some ⟨g, 0, none⟩)) none (some (.int .i64 (q : Int))) none).run Tryd.prog W = .ok (.slice (some ⟨g, 0, none⟩) q 8) W := by
  have e8 : Tryd.prog.arrayLen 60 = 8 := by kernel_rfl
  have hs : ∀ W, (sizeOf (Tryd.prog.elem 60)).run Tryd.prog W = .ok 1 W := fun W => by kernel_rfl
  rw [run_sliceAt_array_h (P := Tryd.prog) W 60 ⟨g, 0, none⟩ (by kernel_rfl) .i64 (q : Int) (by omega) (by rw [e8]; omega), hs W]
  simp only [Result.andThen, slicedAt, e8, Int.toNat_natCast]
  rfl
/-- putGroups of a piece of the block -/
theorem putpiece {w : World} {b a o off n cap : Nat} {W : World} (hv : VO w) (H : HG w b (grpA a) W) (hn : o + n ≤ 8) (ho : 0 < n → off = o) :
    Calls Tryd.prog 41 #[.slice (some ⟨b, off, none⟩) n cap] W (Gives (St (putG (rowA (grpA a) o n))) W) := by
  have := putg_any b off cap (rowA (grpA a) o n) (by rw [rowA_len]; omega) (rowA_lt a o n) W (VO.step H.1 hv) H.2.2.1 (by
    intro j x hj
    obtain ⟨hl, rfl⟩ := rowA_get hj
    rw [ho (by omega)]
    exact (H.2.2.2 (o + j) (by omega)).1)
  rw [rowA_len] at this
  exact this
theorem put6_long {a : Nat} (h : (gapS (grpA a) 8).2.1 - (gapS (grpA a) 8).1 < 2) : put6L a = putG (rowA (grpA a) 0 8) := by unfold put6L; rw [if_pos h]
theorem put6_cut {a F T : Nat} (hF : (gapS (grpA a) 8).1 = F) (hT : (gapS (grpA a) 8).2.1 = T) (h : ¬ T - F < 2) : put6L a = putG (rowA (grpA a) 0 F) ++ [58, 58] ++ putG (rowA (grpA a) T (8 - T)) := by
  subst hF hT
  unfold put6L; rw [if_neg h]

set_option maxRecDepth 100000 in
set_option maxHeartbeats 1000000 in
theorem put6_any {a : Nat} (ha : Fits a) (w : World) (hv : VO w) :
    Calls Tryd.prog 21 #[A a] w (Gives (St (put6L a)) w) := by
  have GL := gapS_le (grpA a) 8
  have GA := hide (fun W => gap_any (grpA a) W)
  have P := hide (fun (b : Nat) (W : World) (H : HG w b (grpA a) W) (o off n cap : Nat) (h1 : o + n ≤ 8) (h2 : 0 < n → off = o) => putpiece (cap := cap) hv H h1 h2)
  obtain ⟨F, hF⟩ : ∃ F, (gapS (grpA a) 8).1 = F := ⟨_, rfl⟩
  obtain ⟨T, hT⟩ : ∃ T, (gapS (grpA a) 8).2.1 = T := ⟨_, rfl⟩
  rw [hF, hT] at GA GL
  obtain ⟨g1, g2, _⟩ := GL
  by_cases hc : T - F < 2
  · have C : (T : Int) - (F : Int) < 2 := by omega
    have R := hide (put6_long (by rw [hF, hT]; exact hc))
    clear hF hT
    go_enter Tryd.func21, Tryd.ntmps21
    go_wp2_with fail
    refine (split_any ha _).mono ?_
    rintro e w1 ⟨rfl, hb1⟩
    have HB1 := chain (below_alloc w _) hb1
    clear hb1
    have H2 := hg_full HB1 (grpA a) 60
    unfold arr8 at GA ⊢
    go_wp2_with fail
    generalize w1.heap.size = b at H2 ⊢
    refine (GA.out _).mono ?_
    rintro e w2 ⟨rfl, hb2⟩
    have H3 := H2.step hb2
    clear hb2 H2 HB1 w1 GA
    have P8 := hide (P.out _ _ H3 0 0 8 8 (by omega) (fun _ => rfl))
    go_wp2_with (first | (go_at_call 41; refine P8.out.mono ?_; rintro e w3 ⟨rfl, hb3⟩) | go_in)
    go_ret
    rw [R.out]
    exact ⟨rfl, chain H3.1 hb3⟩
  · have C : ¬ (T : Int) - (F : Int) < 2 := by omega
    have R := hide (put6_cut hF hT hc)
    clear hF hT
    go_enter Tryd.func21, Tryd.ntmps21
    go_wp2_with fail
    refine (split_any ha _).mono ?_
    rintro e w1 ⟨rfl, hb1⟩
    have HB1 := chain (below_alloc w _) hb1
    clear hb1
    have H2 := hg_full HB1 (grpA a) 60
    unfold arr8 at GA ⊢
    go_wp2_with fail
    generalize w1.heap.size = b at H2 ⊢
    refine (GA.out _).mono ?_
    rintro e w2 ⟨rfl, hb2⟩
    have H3 := H2.step hb2
    clear hb2 H2 HB1 w1 GA
    have SH := slice_hi8 b F (by omega)
    obtain ⟨o, SL, ho⟩ := slice_lo8 b T g2
    have PF := hide (fun W H => P.out b W H 0 0 F 8 (by omega) (fun _ => rfl))
    have PT := hide (fun W H => P.out b W H T o (8 - T) (8 - T) (by omega) (fun h => ho (by omega)))
    have LF := putG_len (rowA (grpA a) 0 F) (rowA_lt a 0 F)
    have LT := putG_len (rowA (grpA a) T (8 - T)) (rowA_lt a T (8 - T))
    rw [rowA_len] at LF LT
    generalize putG (rowA (grpA a) 0 F) = l1 at PF LF R
    generalize putG (rowA (grpA a) T (8 - T)) = l2 at PT LT R
    have N1 : ¬ 9223372036854775807 < l1.length + 2 := by omega
    have N2 : ¬ 9223372036854775807 < l1.length + 2 + l2.length := by omega
    go_wp2_with fail
    refine wp_region_quiet (C := HG w b (grpA a)) (by kernel_rfl) (by kernel_rfl) (HG.drew H3) ?_
    refine wpQuiet_step (fun K hK => ?_)
    go_simp
    with_reducible (first | refine ⟨_, fun _ _ => rfl, hK _ ?_⟩ | refine hK _ ?_)
    clear hK K
    refine wpQuiet_step (fun K hK => ?_)
    go_simp
    with_reducible (first | refine ⟨_, fun _ _ => rfl, hK _ ?_⟩ | refine hK _ ?_)
    clear hK K
    refine wpQuiet_step (fun K hK => ?_)
    go_simp
    refine ⟨_, fun W hW => (PF.out W hW).mono fun e w4 ⟨he, hb⟩ => ⟨he, HG.step hW hb⟩, hK _ ?_⟩
    clear hK K
    refine wpQuiet_step (fun K hK => ?_)
    go_simp
    with_reducible (first | refine ⟨_, fun _ _ => rfl, hK _ ?_⟩ | refine hK _ ?_)
    clear hK K
    refine wpQuiet_step (fun K hK => ?_)
    go_simp
    with_reducible (first | refine ⟨_, fun _ _ => rfl, hK _ ?_⟩ | refine hK _ ?_)
    clear hK K
    refine wpQuiet_step (fun K hK => ?_)
    go_simp
    with_reducible (first | refine ⟨_, fun _ _ => rfl, hK _ ?_⟩ | refine hK _ ?_)
    clear hK K
    refine wpQuiet_step (fun K hK => ?_)
    go_simp
    refine ⟨_, fun W hW => (PT.out W hW).mono fun e w4 ⟨he, hb⟩ => ⟨he, HG.step hW hb⟩, hK _ ?_⟩
    clear hK K
    refine wpQuiet_step (fun K hK => ?_)
    go_simp
    with_reducible (first | refine ⟨_, fun _ _ => rfl, hK _ ?_⟩ | refine hK _ ?_)
    clear hK K
    refine wpQuiet_step (fun K hK => ?_)
    go_simp
    with_reducible (first | refine ⟨_, fun _ _ => rfl, hK _ ?_⟩ | refine hK _ ?_)
    clear hK K
    show ∀ w', _
    intro w5 H5
    go_wp2
    go_ret
    refine ⟨?_, H5.1⟩
    rw [R.out]
    exact congrArg (fun b => Ending.returned (.string b)) (cat3 l1 l2)
end Go.Proofs.YtmapcllmiomelaaDoor
