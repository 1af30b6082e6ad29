/-
  The contracts of the document's own Put, PutPrefix and Hex. Conditions: the words are words of 64 bits, an int is an int of 64 bits (every value of the types is such); a text of bytes has at most 2^32 - 16 bytes.
-/
import Derived.Test.YtmapcllmiomelaaGreatDoorTextQ3
import Derived.Test.YtmapcllmiomelaaGreatDoorTextW
import Derived.Deep.AppendLies
import Derived.Deep.RegionLaw
namespace Go.Proofs.YtmapcllmiomelaaGreatDoor
open Go.RowKit Go.Joins

set_option maxRecDepth 100000 in
set_option maxHeartbeats 1000000 in
theorem rput_any (fam : Int) {a : Nat} (ha : Fits a) (w : World) : Calls Tryz.prog 10 #[.int .i64 fam, A a] w (Gives (St (putL fam a)) w) := by
  have F0 := Rf.two_new w a 24
  have B0 := below_alloc w (.cells #[.int .u64 (hi a : Nat), .int .u64 (lo a : Nat)] 24)
  obtain ⟨y0, y1, _⟩ := id F0
  by_cases h6 : fam = 6
  · have P6 := hide (fun W => rput6_any a W)
    have E : (fam == 6) = true := by rw [h6]; rfl
    have R := hide (show putL fam a = put6L a by unfold putL; rw [if_neg (by omega), if_pos h6])
    clear h6
    go_enter Tryz.func10, Tryz.ntmps10
    go_wp2_with fail
    refine (P6.out _).mono ?_
    rintro e w1 ⟨rfl, hb1⟩
    go_wp2
    go_ret
    exact ⟨by rw [R.out]; rfl, chain B0 hb1⟩
  · have E : (fam == 6) = false := by simpa using h6
    have T4 := hide (fun W => Rf.rto4_any ha W)
    by_cases h4 : fam = 4
    · have E4 : (fam != 4) = false := by rw [h4]; rfl
      by_cases hs : a < 4294967296
      · have R := hide (show putL fam a = put4 a by unfold putL; rw [if_pos h4, if_pos hs])
        have P4 := hide (fun W => rput4_any a hs W)
        have e1 : to4S a = a := by unfold to4S; rw [if_pos hs]
        have e2 : to4O a = true := by unfold to4O; simpa using hs
        rw [e1, e2] at T4
        clear e1 e2 h4 h6 hs
        go_enter Tryz.func10, Tryz.ntmps10
        go_wp2_with fail
        refine (T4.out _).mono ?_
        rintro e w1 ⟨rfl, hb1⟩
        clear y0 y1
        go_wp2_with fail
        refine (P4.out _).mono ?_
        rintro e w2 ⟨rfl, hb2⟩
        go_wp2
        go_ret
        exact ⟨by rw [R.out]; rfl, chain (chain B0 hb1) hb2⟩
      · have R := hide (show putL fam a = [] by unfold putL; rw [if_pos h4, if_neg hs])
        have e2 : to4O a = false := by unfold to4O; simpa using hs
        rw [e2] at T4
        clear e2 h4 h6 hs
        go_enter Tryz.func10, Tryz.ntmps10
        go_wp2_with fail
        refine (T4.out _).mono ?_
        rintro e w1 ⟨rfl, hb1⟩
        clear y0 y1
        go_wp2
        go_ret
        exact ⟨by rw [R.out]; rfl, chain B0 hb1⟩
    · have E4 : (fam != 4) = true := by simpa using h4
      have R := hide (show putL fam a = [] by unfold putL; rw [if_neg h4, if_neg h6])
      clear h4 h6
      go_enter Tryz.func10, Tryz.ntmps10
      go_wp2_with fail
      refine (T4.out _).mono ?_
      rintro e w1 ⟨rfl, hb1⟩
      clear y0 y1
      go_wp2
      go_ret
      exact ⟨by rw [R.out]; rfl, chain B0 hb1⟩
theorem pp_sound {fam : Int} {p : Nat} {n : Int} (h : soundS p n = true) : ppL fam p n = if putL fam p = [] ∨ n < outS fam then [] else putL fam p ++ [47] ++ Lib.itoa (n - outS fam) := by
  have hb := (sound_iff.1 h).1
  have e : bitsN fam n = n - outS fam := by
    unfold bitsN
    have : outS fam = 96 ∨ outS fam = 0 := by unfold outS; split <;> simp
    rw [IntWalk.i64_in _ ⟨by omega, by omega⟩]
  unfold ppL
  rw [e, h]
  by_cases h1 : putL fam p = []
  · rw [if_pos (Or.inl h1), if_pos (Or.inl h1)]
  · by_cases h2 : n < outS fam
    · rw [if_pos (Or.inr (Or.inl (by omega))), if_pos (Or.inr h2)]
    · rw [if_neg (by rintro (h3 | h3 | h3); exact h1 h3; omega; cases h3), if_neg (by rintro (h3 | h3); exact h1 h3; exact h2 h3)]
theorem pp_unsound {fam : Int} {p : Nat} {n : Int} (h : soundS p n = false) : ppL fam p n = [] := by unfold ppL; rw [if_pos (Or.inr (Or.inr h))]
set_option maxRecDepth 100000 in
set_option maxHeartbeats 1000000 in
theorem rpp_any (fam : Int) {p : Nat} {n : Int} (hp : Fits p) (w : World) : Calls Tryz.prog 12 #[.int .i64 fam, Pv p n] w (Gives (St (ppL fam p n)) w) := by
  have P := hide (fun W => rput_any fam hp W)
  have S := hide (fun W => Rf.rsound_any hp n W)
  have LN := putL_short fam p
  have H0 := hpf_new w p n 26
  obtain ⟨B0, l0, c0, c1, c2⟩ := id H0
  cases hs : soundS p n with
  | false =>
    rw [hs] at S
    have R := hide (pp_unsound (fam := fam) hs)
    generalize putL fam p = l at *
    clear hs
    go_enter Tryz.func12, Tryz.ntmps12
    go_wp2_with fail
    clear B0 l0 c0 c1 c2
    refine (P.out _).mono ?_
    rintro e w1 ⟨rfl, hb1⟩
    have H1 := H0.step hb1
    clear H0 hb1
    obtain ⟨B1, l0, c0, c1, c2⟩ := id H1
    go_wp2_with fail
    clear B1 l0 c0 c1 c2
    refine (S.out _).mono ?_
    rintro e w2 ⟨rfl, hb2⟩
    go_wp2
    go_ret
    exact ⟨by rw [R.out]; rfl, chain H1.1 hb2⟩
  | true =>
    have hb := (sound_iff.1 hs).1
    rw [hs] at S
    have R := hide (pp_sound (fam := fam) hs)
    have O4 : fam = 4 → outS fam = 96 := fun h => by unfold outS; rw [if_pos h]
    have O0 : ¬ fam = 4 → outS fam = 0 := fun h => by unfold outS; rw [if_neg h]
    generalize putL fam p = l at *
    generalize outS fam = o at *
    by_cases hl : l = []
    · have R2 := hide (show ppL fam p n = [] by rw [R.out, if_pos (Or.inl hl)])
      have LE : l.isEmpty = true := by rw [hl]; rfl
      clear hl R O4 O0
      go_enter Tryz.func12, Tryz.ntmps12
      go_wp2_with fail
      clear B0 l0 c0 c1 c2
      refine (P.out _).mono ?_
      rintro e w1 ⟨rfl, hb1⟩
      have H1 := H0.step hb1
      clear H0 hb1
      obtain ⟨B1, l0, c0, c1, c2⟩ := id H1
      go_wp2_with fail
      clear B1 l0 c0 c1 c2
      refine (S.out _).mono ?_
      rintro e w2 ⟨rfl, hb2⟩
      have H2 := H1.step hb2
      clear H1 hb2
      obtain ⟨B2, l0, c0, c1, c2⟩ := id H2
      go_wp2
      go_ret
      exact ⟨by rw [R2.out]; rfl, B2⟩
    · have LE : l.isEmpty = false := by simpa using hl
      by_cases h4 : fam = 4
      · have E4 : (fam == 4) = true := by rw [h4]; rfl
        by_cases h96 : n < 96
        · have R2 := hide (show ppL fam p n = [] by rw [R.out, if_pos (Or.inr (by rw [O4 h4]; exact h96))])
          clear hl R O4 O0 h4
          go_enter Tryz.func12, Tryz.ntmps12
          go_wp2_with fail
          clear B0 l0 c0 c1 c2
          refine (P.out _).mono ?_
          rintro e w1 ⟨rfl, hb1⟩
          have H1 := H0.step hb1
          clear H0 hb1
          obtain ⟨B1, l0, c0, c1, c2⟩ := id H1
          go_wp2_with fail
          clear B1 l0 c0 c1 c2
          refine (S.out _).mono ?_
          rintro e w2 ⟨rfl, hb2⟩
          have H2 := H1.step hb2
          clear H1 hb2
          obtain ⟨B2, l0, c0, c1, c2⟩ := id H2
          go_wp2
          go_ret
          exact ⟨by rw [R2.out]; rfl, B2⟩
        · have R2 := hide (show ppL fam p n = l ++ [47] ++ Lib.itoa (n - 96) by rw [R.out, O4 h4, if_neg (by rintro (h | h); exact hl h; exact h96 h)])
          clear hl R O4 O0 h4
          have IL := Lib.itoa_length_le (n - 96) (by omega) (by omega)
          have N2 := hide (fun W => rnum_any (n - 96) (by omega) (by omega) W)
          generalize Lib.itoa (n - 96) = t at *
          have L1 : ¬ 9223372036854775807 < l.length + 1 := by omega
          have L2 : ¬ 9223372036854775807 < l.length + 1 + t.length := by omega
          go_enter Tryz.func12, Tryz.ntmps12
          go_wp2_with fail
          clear B0 l0 c0 c1 c2
          refine (P.out _).mono ?_
          rintro e w1 ⟨rfl, hb1⟩
          have H1 := H0.step hb1
          clear H0 hb1
          obtain ⟨B1, l0, c0, c1, c2⟩ := id H1
          go_wp2_with fail
          clear B1 l0 c0 c1 c2
          refine (S.out _).mono ?_
          rintro e w2 ⟨rfl, hb2⟩
          have H2 := H1.step hb2
          clear H1 hb2
          obtain ⟨B2, l0, c0, c1, c2⟩ := id H2
          go_wp2_with fail
          refine (N2.out _).mono ?_
          rintro e w3 ⟨rfl, hb3⟩
          go_wp2
          go_ret
          exact ⟨by rw [R2.out]; exact congrArg (fun b => Ending.returned (Value.string b)) (cat3s _ _), chain B2 hb3⟩
      · have E4 : (fam == 4) = false := by simpa using h4
        have R2 := hide (show ppL fam p n = l ++ [47] ++ Lib.itoa n by rw [R.out, O0 h4, if_neg (by rintro (h | h); exact hl h; omega), Int.sub_zero])
        clear hl R O4 O0 h4
        have IL := Lib.itoa_length_le (n) (by omega) (by omega)
        have N2 := hide (fun W => rnum_any (n) (by omega) (by omega) W)
        generalize Lib.itoa (n) = t at *
        have L1 : ¬ 9223372036854775807 < l.length + 1 := by omega
        have L2 : ¬ 9223372036854775807 < l.length + 1 + t.length := by omega
        go_enter Tryz.func12, Tryz.ntmps12
        go_wp2_with fail
        clear B0 l0 c0 c1 c2
        refine (P.out _).mono ?_
        rintro e w1 ⟨rfl, hb1⟩
        have H1 := H0.step hb1
        clear H0 hb1
        obtain ⟨B1, l0, c0, c1, c2⟩ := id H1
        go_wp2_with fail
        clear B1 l0 c0 c1 c2
        refine (S.out _).mono ?_
        rintro e w2 ⟨rfl, hb2⟩
        have H2 := H1.step hb2
        clear H1 hb2
        obtain ⟨B2, l0, c0, c1, c2⟩ := id H2
        go_wp2_with fail
        refine (N2.out _).mono ?_
        rintro e w3 ⟨rfl, hb3⟩
        go_wp2
        go_ret
        exact ⟨by rw [R2.out]; exact congrArg (fun b => Ending.returned (Value.string b)) (cat3s _ _), chain B2 hb3⟩
set_option maxRecDepth 100000 in
set_option maxHeartbeats 1000000 in
theorem rhex_any (s : ByteArray) (hs : Lim s.size) (w : World) : Calls Tryz.prog 16 #[.string s] w (Gives (St (hexL s.data.toList)) w) := by
  obtain ⟨i0, hi, hz0, hz1, hz2⟩ := info_parts infoB
  have hs2 : s.size ≤ 4294967280 := hs
  have hown0 : (w.alloc (.cells #[] 5)).ownsRow w.heap.size 5 1 (.slice (some ⟨w.heap.size, 0, none⟩) 0 0) 0 [] := World.ownsRow_lit w #[] 0 (Nat.le_refl _) (by unfold maxLen; omega) rfl
  have hB0 := below_alloc w (.cells #[] 5)
  go_enter Tryz.func16, Tryz.ntmps16
  go_wp2_with fail
  go_loopw [3, 4] (fun v i wr => ∃ k g cap : Nat, k ≤ s.size ∧ i = .int .i64 k ∧ v = .slice (some ⟨g, 0, none⟩) (2 * k) cap ∧
      wr.ownsRow w.heap.size 5 1 (.slice (some ⟨g, 0, none⟩) (2 * k) cap) (2 * k) ((hexL (s.data.toList.take k)).map byteV) ∧ Below w.heap.size w wr) (fun _ i _ => s.size - (intOf i).toNat)
  case atStart => exact ⟨0, _, _, Nat.zero_le _, rfl, rfl, hown0, hB0⟩
  case round =>
    clear hown0 hB0
    obtain ⟨k, g, cap, hk, rfl, rfl, hown, hb⟩ := hrel
    by_cases hlt : k < s.size
    · have b0 := s[k].toNat_lt
      obtain ⟨d1, h1⟩ : ∃ d1, d1 = s[k].toNat / 16 := ⟨_, rfl⟩
      obtain ⟨d2, h2⟩ : ∃ d2, d2 = s[k].toNat % 16 := ⟨_, rfl⟩
      have Q1 : IntKind.u8.wrap ((s[k].toNat : Int) / 16) = (d1 : Int) := by rw [IntKind.wrap_u8]; omega
      have Q2 : (s[k].toNat : Int).tmod 16 = (d2 : Int) := by rw [Int.tmod_eq_emod_of_nonneg (by omega)]; omega
      have l1 : (d1 : Int) < 16 := by omega
      have l2 : (d2 : Int) < 16 := by omega
      have k1 : d1 < digs.size := by rw [digs_size]; omega
      have k2 : d2 < digs.size := by rw [digs_size]; omega
      have g1 : digs[d1]'k1 = hexd d1 := digs_at ⟨d1, by omega⟩
      have g2 : digs[d2]'k2 = hexd d2 := digs_at ⟨d2, by omega⟩
      have HN := hide (show (hexL (s.data.toList.take k)).map byteV ++ [byteV (hexd d1), byteV (hexd d2)] = (hexL (s.data.toList.take (k + 1))).map byteV by
        rw [← hex_next hlt, twoV_eq, h1, h2])
      clear h1 h2
      have H0 := hb.size
      have BA := below_alloc wr (.cells #[.int .u8 ((hexd d1).toNat : Int), .int .u8 ((hexd d2).toNat : Int)] 5)
      have hownA := (hown.alloc (.cells #[.int .u8 ((hexd d1).toNat : Int), .int .u8 ((hexd d2).toNat : Int)] 5)).drew
      have NEWS := World.news_of_block (w := (wr.alloc (.cells #[.int .u8 ((hexd d1).toNat : Int), .int .u8 ((hexd d2).toNat : Int)] 5)).drew) (heap_alloc_new wr (.cells #[.int .u8 ((hexd d1).toNat : Int), .int .u8 ((hexd d2).toNat : Int)] 5))
      have ONE : ∀ u ∈ [byteV (hexd d1), byteV (hexd d2)], u.oneCell' = true := fun u hu => by
        simp only [List.mem_cons, List.not_mem_nil, or_false] at hu
        rcases hu with rfl | rfl <;> rfl
      go_wp2_with fail
      go_region_law ((refine step_append_lies _ rfl (.tmp 12) (.tmp 23) 63 rfl w.heap.size 5 i0 (.int .u8 0) 1 1 Tryz.underlying63 hi hz0 hz1 hz2 rfl (by decide) (.slice (some ⟨g, 0, none⟩) (2 * k) cap) (2 * k) ((hexL (s.data.toList.take k)).map byteV) (by simp [Act.eval]) hownA ⟨wr.heap.size, 0, none⟩ 2 2 [byteV (hexd d1), byteV (hexd d2)] (by simp [Act.eval]) rfl NEWS ONE (by omega) (by unfold maxLen; omega) (by omega) (by simp; omega) (wr.heap.size + 1) (by simp) ?_; intro g2 cap2 w1 hown1 hgrow1 hat hlt2))
      all_goals
        rw [HN.out, show 2 * k + 2 = 2 * (k + 1) by omega] at hown1
        rw [show 2 * k + 2 = 2 * (k + 1) by omega]
        have HB1 := ((hb.alloc hb.size _).drew).grown hgrow1 (by simp; omega) (fun j hj => by cases hj; exact base_le hown)
        clear HN hat hlt2 hgrow1 NEWS ONE hownA BA
        go_wp2
        go_roundw
        case rel => exact ⟨k + 1, g2, cap2, by omega, by go_num, rfl, hown1, HB1⟩
        case measure => simp [intOf]; omega
    · have hk2 : k = s.size := by omega
      have CV := conv_own hown
      have e : s.data.toList.take k = s.data.toList := List.take_of_length_le (by rw [hk2]; simp)
      rw [e] at CV
      clear e hk2
      go_wp2
      go_ret
      exact ⟨rfl, hb⟩
end Go.Proofs.YtmapcllmiomelaaGreatDoor
