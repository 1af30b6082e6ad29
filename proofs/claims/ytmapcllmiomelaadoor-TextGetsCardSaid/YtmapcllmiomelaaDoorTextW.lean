/-
  Contracts of PutPrefix and GetPrefix: for every int as the family. Conditions: the library's variables hold what is laid; the words are words of 64 bits and an int is an int of 64 bits; a text is shorter than 2^32 - 15 bytes.
-/
import Derived.Test.YtmapcllmiomelaaDoorTextT
import Derived.Lib.ItoaLen
namespace Go.Proofs.YtmapcllmiomelaaDoor
open Go.RowKit Go.Joins

theorem put6L_short (a : Nat) : (put6L a).length ≤ 100 := by
  have h := gapS_le (grpA a) 8
  have p1 := putG_len (rowA (grpA a) 0 8) (rowA_lt a 0 8)
  have p2 := putG_len (rowA (grpA a) 0 (gapS (grpA a) 8).1) (rowA_lt a _ _)
  have p3 := putG_len (rowA (grpA a) (gapS (grpA a) 8).2.1 (8 - (gapS (grpA a) 8).2.1)) (rowA_lt a _ _)
  rw [rowA_len] at p1 p2 p3
  unfold put6L
  split
  · omega
  · simp only [List.length_append, List.length_cons, List.length_nil]; omega
theorem putL_short (fam : Int) (a : Nat) : (putL fam a).length ≤ 100 := by
  unfold putL
  split
  · split
    · have := put4_short a; omega
    · simp
  · split
    · exact put6L_short a
    · simp
theorem cat3s (l1 l2 : List UInt8) : (ByteArray.mk l1.toArray ++ ByteArray.mk #[47] ++ ByteArray.mk l2.toArray) = ⟨(l1 ++ [47] ++ l2).toArray⟩ := by
  apply ByteArray.ext
  simp [ByteArray.data_append]
/-- the block of a prefix -/
def HPf (w : World) (p : Nat) (n : Int) (W : World) : Prop := Below w.heap.size w W ∧ w.heap.size < W.heap.size ∧ W.cell? ⟨w.heap.size, 0, none⟩ = some (.int .u64 (hi p : Nat)) ∧ W.cell? ⟨w.heap.size, 1, none⟩ = some (.int .u64 (lo p : Nat)) ∧ W.cell? ⟨w.heap.size, 2, none⟩ = some (.int .i64 n)
theorem HPf.step {w : World} {p : Nat} {n : Int} {W w2 : World} (h : HPf w p n W) (hb : Below W.heap.size W w2) : HPf w p n w2 :=
  ⟨h.1.trans (hb.mono h.1.size), Nat.lt_of_lt_of_le h.2.1 hb.size, keep_cell hb h.2.2.1, keep_cell hb h.2.2.2.1, keep_cell hb h.2.2.2.2⟩
theorem HPf.drew {w : World} {p : Nat} {n : Int} {W : World} (h : HPf w p n W) : HPf w p n { W with drawn := W.drawn + 1 } := h.step (Below.refl _ _).drew
theorem hpf_new (w : World) (p : Nat) (n : Int) (t : TypeId) : HPf w p n (w.alloc (.cells #[.int .u64 (hi p : Nat), .int .u64 (lo p : Nat), .int .i64 n] t)) := by
  refine ⟨below_alloc _ _, by simp, ?_, ?_, ?_⟩ <;> simp [go_sem]
/-- the bits that the text of a prefix counts -/
def bitsN (fam n : Int) : Int := IntKind.i64.wrap (n - outS fam)
/-- the text of a prefix -/
def ppL (fam : Int) (p : Nat) (n : Int) : List UInt8 := if putL fam p = [] ∨ bitsN fam n < 0 ∨ soundS p n = false then [] else putL fam p ++ [47] ++ Lib.itoa (bitsN fam n)

set_option maxRecDepth 100000 in
set_option maxHeartbeats 1000000 in
theorem putprefix_any (fam : Int) {p : Nat} {n : Int} (hp : Fits p) (w : World) (hv : VO w) :
    Calls Tryd.prog 23 #[.int .i64 fam, Pv p n] w (Gives (St (ppL fam p n)) w) := by
  have P := hide (fun W (H : HPf w p n W) => put_any fam hp W (VO.step H.1 hv))
  have O := hide (fun W => outside_any fam W)
  have S := hide (fun W => sound_any hp n W)
  have N := hide (fun h1 h2 W (H : HPf w p n W) => num_any (bitsN fam n) h1 h2 W (VO.step H.1 hv))
  have R := hide (show ppL fam p n = if putL fam p = [] ∨ bitsN fam n < 0 ∨ soundS p n = false then [] else putL fam p ++ [47] ++ Lib.itoa (bitsN fam n) from rfl)
  have B := hide (show IntKind.i64.wrap (n - outS fam) = bitsN fam n from rfl)
  have LN := putL_short fam p
  generalize bitsN fam n = b at *
  generalize outS fam = o at *
  generalize putL fam p = l at *
  generalize soundS p n = sd at *
  have H0 := HPf.drew (hpf_new w p n 33)
  go_enter Tryd.func23, Tryd.ntmps23
  go_wp2_with fail
  refine wp_region_quiet (C := HPf w p n) (by kernel_rfl) (by kernel_rfl) H0 ?_
  refine wpQuiet_step (fun K hK => ?_)
  go_simp
  with_reducible (first | refine ⟨_, fun _ _ => rfl, hK _ ?_⟩ | refine hK _ ?_)
  clear hK K
  refine wpQuiet_step (fun K hK => ?_)
  go_simp
  with_reducible (first | refine ⟨_, fun _ _ => rfl, hK _ ?_⟩ | refine hK _ ?_)
  clear hK K
  refine wpQuiet_step (fun K hK => ?_)
  go_simp
  refine ⟨A p, fun W hW => (by obtain ⟨_, _, u0, u1, u2⟩ := hW; simp [go_sem, u0, u1]), hK _ ?_⟩
  clear hK K
  refine wpQuiet_step (fun K hK => ?_)
  go_simp
  refine ⟨_, fun W hW => (P.out W hW).mono fun e w4 ⟨he, hb⟩ => ⟨he, HPf.step hW hb⟩, hK _ ?_⟩
  clear hK K
  refine wpQuiet_step (fun K hK => ?_)
  go_simp
  with_reducible (first | refine ⟨_, fun _ _ => rfl, hK _ ?_⟩ | refine hK _ ?_)
  clear hK K
  refine wpQuiet_step (fun K hK => ?_)
  go_simp
  refine ⟨.int .i64 n, fun W hW => (by obtain ⟨_, _, u0, u1, u2⟩ := hW; simp [go_sem, u2]), hK _ ?_⟩
  clear hK K
  refine wpQuiet_step (fun K hK => ?_)
  go_simp
  with_reducible (first | refine ⟨_, fun _ _ => rfl, hK _ ?_⟩ | refine hK _ ?_)
  clear hK K
  refine wpQuiet_step (fun K hK => ?_)
  go_simp
  refine ⟨_, fun W hW => (O.out W).mono fun e w4 ⟨he, hb⟩ => ⟨he, HPf.step hW hb⟩, hK _ ?_⟩
  clear hK K
  refine wpQuiet_step (fun K hK => ?_)
  go_simp
  with_reducible (first | refine ⟨_, fun _ _ => rfl, hK _ ?_⟩ | refine hK _ ?_)
  clear hK K
  refine wpQuiet_step (fun K hK => ?_)
  go_simp
  with_reducible (first | refine ⟨_, fun _ _ => rfl, hK _ ?_⟩ | refine hK _ ?_)
  clear hK K
  refine wpQuiet_step (fun K hK => ?_)
  go_simp
  with_reducible (first | refine ⟨_, fun _ _ => rfl, hK _ ?_⟩ | refine hK _ ?_)
  clear hK K
  refine wpQuiet_nil ?_
  intro w1 H1
  clear H0
  rw [B.out]
  by_cases hl : l = []
  · have R2 := hide (show ppL fam p n = [] by rw [R.out, if_pos (Or.inl hl)])
    have LE : l.isEmpty = true := by rw [hl]; rfl
    clear hl R
    go_wp2
    go_ret
    exact ⟨by rw [R2.out]; rfl, H1.1⟩
  · have LE : l.isEmpty = false := by simpa using hl
    by_cases hb : b < 0
    · have R2 := hide (show ppL fam p n = [] by rw [R.out, if_pos (Or.inr (Or.inl hb))])
      clear hl R
      go_wp2
      go_ret
      exact ⟨by rw [R2.out]; rfl, H1.1⟩
    · obtain ⟨_, _, c0, c1, c2⟩ := id H1
      cases sd with
      | false =>
        have R2 := hide (show ppL fam p n = [] by rw [R.out, if_pos (Or.inr (Or.inr rfl))])
        clear hl R
        go_wp2_with fail
        refine (S.out _).mono ?_
        rintro e w2 ⟨rfl, hb2⟩
        have H2 := H1.step hb2
        clear c0 c1 c2
        go_wp2
        go_ret
        exact ⟨by rw [R2.out]; rfl, H2.1⟩
      | true =>
        have R2 := hide (show ppL fam p n = l ++ [47] ++ Lib.itoa b by rw [R.out, if_neg (by simp [hl]; omega)])
        clear hl R
        go_wp2_with fail
        refine (S.out _).mono ?_
        rintro e w2 ⟨rfl, hb2⟩
        have H2 := H1.step hb2
        clear c0 c1 c2
        have hb0 : -9223372036854775808 ≤ b ∧ b ≤ 9223372036854775807 := by rw [← B.out, IntKind.wrap_i64]; omega
        have IL := Lib.itoa_length_le b hb0.1 hb0.2
        have N2 := hide (N.out hb0.1 hb0.2)
        clear hb0 N B
        generalize Lib.itoa b = t at *
        have L1 : ¬ 9223372036854775807 < l.length + 1 := by omega
        have L2 : ¬ 9223372036854775807 < l.length + 1 + t.length := by omega
        go_wp2_with fail
        refine (N2.out _ H2).mono ?_
        rintro e w3 ⟨rfl, hb3⟩
        have H3 := H2.step hb3
        go_wp2
        go_ret
        refine ⟨?_, H3.1⟩
        rw [R2.out]
        exact congrArg (fun b => Ending.returned (.string b)) (cat3s l t)
end Go.Proofs.YtmapcllmiomelaaDoor
