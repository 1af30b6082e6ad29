/-
  Contracts of appendLow, bytes, padding and MD5. Conditions: a number is one of its type; a string takes at most 2^47 bytes; the package's variables hold what its text lays.
-/
import Derived.Test.YtiickcdkibcdpaaDoorDigA
import Derived.Test.YtiickcdkibcdpaaDoorShelf
import Derived.Laws.OwnMore
namespace Go.Proofs.YtiickcdkibcdpaaDoor
open Go.RowKit Go.Joins

abbrev St (l : List UInt8) : Value := .string ⟨l.toArray⟩
theorem st_eq {a b : List UInt8} (h : a = b) : St a = St b := by rw [h]
theorem infoB : (Tryd.prog.info? 5).map (fun i => (i.zero, i.size, i.bytes)) = some (some (.int .u8 0), 1, 1) := by kernel_rfl
def byteV (b : UInt8) : Value := .int .u8 (b.toNat : Int)
theorem byte_toNat {x : Nat} : (UInt8.ofNat (x % 256)).toNat = x % 256 := by simp
theorem byte_of {m : Nat} : Value.int .u8 ((m : Int) % 256) = byteV (UInt8.ofNat (m % 256)) := by
  unfold byteV
  rw [byte_toNat]
  congr 1
theorem one_cell (b : UInt8) : ∀ u ∈ [byteV b], u.oneCell' = true := by
  intro u hu
  rw [List.mem_singleton.1 hu]
  rfl
theorem one_at (W : World) (b : UInt8) (t : TypeId) : ∀ j u, [byteV b][j]? = some u → (W.alloc (.cells #[byteV b] t)).cell? ((⟨W.heap.size, 0, none⟩ : Go.Addr).add j) = some u := by
  intro j u hj
  match j, hj with
  | 0, hj => simp at hj; subst hj; simp [Addr.add, go_sem]
  | j + 1, hj => simp at hj
/-- bytes that a call has made itself, in a slice -/
def Own (W : World) (base : Nat) (v : Value) (l : List UInt8) : Prop := W.ownsRow base 5 1 v l.length (l.map byteV)
theorem own_nil (W : World) (base : Nat) : Own W base (.slice none 0 0) [] := World.ownsRow_nil W base _ _
theorem own_block {W : World} {base : Nat} {v : Value} {l : List UInt8} (h : Own W base v l) : ∀ k, v.ownBlock = some k → base ≤ k := by
  intro k hk
  rcases h.2 with ⟨rfl, _⟩ | ⟨g, cap, cur, rfl, hb, _⟩
  · cases hk
  · cases hk; exact hb
/-- a call that hands back such bytes -/
def GivesL (base : Nat) (l : List UInt8) (w : World) (e : Ending) (w' : World) : Prop := ∃ v, e = .returned v ∧ Own w' base v l ∧ Below base w w'
theorem conv_own {w : World} {base : Nat} {v : Value} {l : List UInt8} (h : Own w base v l) (hl : 0 < l.length) : (convert 31 9 v).run Tryd.prog w = .ok (St l) w := by
  unfold Own at h
  rcases id h.2 with ⟨_, h0⟩ | ⟨g, cap, cur, rfl, _⟩
  · omega
  · refine run_convert_bytes_back (P := Tryd.prog) w 31 9 5 ⟨g, 0, none⟩ cap l Tryd.underlying31 Tryd.underlying5 Tryd.underlying9 (fun j hj => ?_)
    have := h.cellAt j (by omega)
    have ha : (⟨g, 0, none⟩ : Go.Addr).add j = ⟨g, j, none⟩ := by cases j <;> simp [Addr.add]
    rw [ha, this, List.getElem?_map, List.getElem?_eq_getElem hj]
    rfl

set_option maxRecDepth 100000 in
set_option maxHeartbeats 1000000 in
theorem appendLow_any (x N : Nat) (hx : x < 18446744073709551616) (hN : N ≤ 8) (v : Value) (l : List UInt8) (hl : l.length ≤ 1000) (base : Nat) (w : World) (hw : base ≤ w.heap.size) (h : Own w base v l) :
    Calls Tryd.prog 23 #[v, .int .u64 (x : Int), .int .i64 (N : Int)] w (GivesL base (l ++ leL N x) w) := by
  obtain ⟨i0, hi, hz0, hz1, hz2⟩ := info_parts infoB
  go_enter Tryd.func23, Tryd.ntmps23
  go_wp2_with fail
  go_loopw [0, 1, 8] (fun v1 m i wr => ∃ (k y : Nat) (l1 : List UInt8), k ≤ N ∧ i = .int .i64 (k : Int) ∧ m = .int .u64 (y : Int) ∧ y < 18446744073709551616 ∧ Hid (l1 ++ leL (N - k) y = l ++ leL N x) ∧ l1.length ≤ 1000 + k ∧ Own wr base v1 l1 ∧ Below base w wr) (fun _ _ i _ => N - (intOf i).toNat)
  case atStart => exact ⟨0, x, l, Nat.zero_le _, rfl, rfl, hx, hide rfl, by omega, h, Below.refl _ _⟩
  case round =>
    obtain ⟨k, y, l1, hk, rfl, rfl, hy, E, hl1, hown, hb⟩ := hrel
    clear h hl
    by_cases hlt : k < N
    · have hA := hown.alloc (.cells #[byteV (UInt8.ofNat (y % 256))] 5)
      have HB := hb.alloc (by have := hb.size; omega) (.cells #[byteV (UInt8.ofNat (y % 256))] 5)
      have E2 := hide (show (l1 ++ [UInt8.ofNat (y % 256)]) ++ leL (N - (k + 1)) (y / 256) = l ++ leL N x by
        rw [← E.out, List.append_assoc, show N - k = (N - (k + 1)) + 1 by omega]; rfl)
      have SB : ((y : Int) % 256) = ((UInt8.ofNat (y % 256)).toNat : Int) := by rw [byte_toNat]; omega
      have hy2 : y / 256 < 18446744073709551616 := by omega
      generalize UInt8.ofNat (y % 256) = b at *
      have hkN : (k : Int) < (N : Int) := by omega
      have zw := hb.size
      have OB := own_block hown
      go_wp2_with (at_builtin; refine wpList_append_own _ rfl (.tmp 10) (.tmp 13) 31 rfl base 5 i0 (.int .u8 0) 1 1 Tryd.underlying31 hi hz0 hz1 hz2 rfl (by decide) _ _ _ rfl hA ⟨wr.heap.size, 0, none⟩ 1 1 [byteV b] rfl rfl (one_at wr b 5) (one_cell b) (by unfold maxLen; omega) (by omega) (by simp; omega) ?_; intro v2 w2 hown2 hgrow2 _)
      have hown3 : Own w2 base v2 (l1 ++ [b]) := by
        unfold Own
        rw [List.length_append, List.map_append]; exact hown2
      have HB2 : Below base w w2 := HB.grown hgrow2 (by simp; omega) OB
      clear hown2 hgrow2 hA HB hown
      go_wp2
      go_roundw
      case rel => exact ⟨k + 1, y / 256, l1 ++ [b], by omega, by go_num, by go_num, hy2, E2, by rw [List.length_append]; show l1.length + 1 ≤ _; omega, hown3, HB2⟩
      case measure => simp [intOf] <;> omega
    · have E2 := hide (show l ++ leL N x = l1 by
        rw [← E.out, show N - k = 0 by omega]; simp [leL])
      go_wp2
      go_ret
      exact ⟨_, rfl, by rw [E2.out]; exact hown, hb⟩

/-- the bytes of the first words -/
def upS (s : S4) : Nat → List UInt8
  | 0 => []
  | 1 => leL 4 s.a
  | 2 => leL 4 s.a ++ leL 4 s.b
  | 3 => leL 4 s.a ++ leL 4 s.b ++ leL 4 s.c
  | _ => bytesS s
theorem upS_length (s : S4) : ∀ k, k ≤ 4 → (upS s k).length = 4 * k
  | 0, _ => rfl
  | 1, _ => by simp [upS, leL_length]
  | 2, _ => by simp [upS, leL_length]
  | 3, _ => by simp [upS, leL_length]
  | 4, _ => by simp [upS, bytesS, leL_length]
set_option maxRecDepth 100000 in
set_option maxHeartbeats 1000000 in
theorem bytes_any (s : S4) (hs : Ok4 s) (w : World) : Calls Tryd.prog 19 #[V4 s] w (Gives (St (bytesS s)) w) := by
  obtain ⟨ha, hb, hc, hd⟩ := hs
  go_enter Tryd.func19, Tryd.ntmps19
  go_wp2_with fail
  go_loopw [3, 7] (fun v i wr => ∃ k : Nat, k ≤ 4 ∧ i = .int .i64 (k : Int) ∧ Own wr w.heap.size v (upS s k) ∧ Below w.heap.size w wr) (fun _ i _ => 4 - (intOf i).toNat)
  case atStart => exact ⟨0, by omega, rfl, own_nil _ _, below_alloc _ _⟩
  case round =>
    obtain ⟨k, hk, rfl, hown, hb⟩ := hrel
    obtain rfl | rfl | rfl | rfl | rfl : k = 0 ∨ k = 1 ∨ k = 2 ∨ k = 3 ∨ k = 4 := by omega
    · have IX : ∀ W, (Instr.index 36 (.agg #[U s.a, U s.b, U s.c, U s.d]) (.int .i64 0)).run Tryd.prog W = .ok (U s.a) W := fun _ => by kernel_rfl
      have AL := hide (fun W (h : Own W w.heap.size u3 (upS s 0)) (hw : w.heap.size ≤ W.heap.size) => appendLow_any s.a 4 (by omega) (by omega) u3 (upS s 0) (by have := upS_length s 0 (by omega); omega) w.heap.size W hw h)
      rw [show ((4 : Nat) : Int) = 4 from rfl] at AL
      go_wp2_with fail
      refine (AL.out _ (by assumption) (by have := hb.size; assumption)).mono ?_
      rintro e w2 ⟨v2, rfl, hown2, hb2⟩
      have HB := hb.trans hb2
      clear AL hown hb hb2 IX
      go_wp2
      go_roundw
      case rel => exact ⟨1, by omega, by go_num, hown2, HB⟩
      case measure => simp [intOf] <;> omega
    · have IX : ∀ W, (Instr.index 36 (.agg #[U s.a, U s.b, U s.c, U s.d]) (.int .i64 1)).run Tryd.prog W = .ok (U s.b) W := fun _ => by kernel_rfl
      have AL := hide (fun W (h : Own W w.heap.size u3 (upS s 1)) (hw : w.heap.size ≤ W.heap.size) => appendLow_any s.b 4 (by omega) (by omega) u3 (upS s 1) (by have := upS_length s 1 (by omega); omega) w.heap.size W hw h)
      rw [show ((4 : Nat) : Int) = 4 from rfl] at AL
      go_wp2_with fail
      refine (AL.out _ (by assumption) (by have := hb.size; assumption)).mono ?_
      rintro e w2 ⟨v2, rfl, hown2, hb2⟩
      have HB := hb.trans hb2
      clear AL hown hb hb2 IX
      go_wp2
      go_roundw
      case rel => exact ⟨2, by omega, by go_num, hown2, HB⟩
      case measure => simp [intOf] <;> omega
    · have IX : ∀ W, (Instr.index 36 (.agg #[U s.a, U s.b, U s.c, U s.d]) (.int .i64 2)).run Tryd.prog W = .ok (U s.c) W := fun _ => by kernel_rfl
      have AL := hide (fun W (h : Own W w.heap.size u3 (upS s 2)) (hw : w.heap.size ≤ W.heap.size) => appendLow_any s.c 4 (by omega) (by omega) u3 (upS s 2) (by have := upS_length s 2 (by omega); omega) w.heap.size W hw h)
      rw [show ((4 : Nat) : Int) = 4 from rfl] at AL
      go_wp2_with fail
      refine (AL.out _ (by assumption) (by have := hb.size; assumption)).mono ?_
      rintro e w2 ⟨v2, rfl, hown2, hb2⟩
      have HB := hb.trans hb2
      clear AL hown hb hb2 IX
      go_wp2
      go_roundw
      case rel => exact ⟨3, by omega, by go_num, hown2, HB⟩
      case measure => simp [intOf] <;> omega
    · have IX : ∀ W, (Instr.index 36 (.agg #[U s.a, U s.b, U s.c, U s.d]) (.int .i64 3)).run Tryd.prog W = .ok (U s.d) W := fun _ => by kernel_rfl
      have AL := hide (fun W (h : Own W w.heap.size u3 (upS s 3)) (hw : w.heap.size ≤ W.heap.size) => appendLow_any s.d 4 (by omega) (by omega) u3 (upS s 3) (by have := upS_length s 3 (by omega); omega) w.heap.size W hw h)
      rw [show ((4 : Nat) : Int) = 4 from rfl] at AL
      go_wp2_with fail
      refine (AL.out _ (by assumption) (by have := hb.size; assumption)).mono ?_
      rintro e w2 ⟨v2, rfl, hown2, hb2⟩
      have HB := hb.trans hb2
      clear AL hown hb hb2 IX
      go_wp2
      go_roundw
      case rel => exact ⟨4, by omega, by go_num, hown2, HB⟩
      case measure => simp [intOf] <;> omega
    · have CV := conv_own hown (by rw [upS_length s 4 (by omega)]; omega)
      clear hown
      go_wp2
      go_ret
      exact ⟨rfl, hb⟩

theorem Own.step {W w2 : World} {base : Nat} {v : Value} {l : List UInt8} (h : Own W base v l) (hb : Below W.heap.size W w2) : Own w2 base v l := by
  refine ⟨h.1, ?_⟩
  rcases h.2 with hn | ⟨g, cap, cur, h1, h2, h3, h4⟩
  · exact Or.inl hn
  · have hl : g < W.heap.size := by
      rcases Nat.lt_or_ge g W.heap.size with h' | h'
      · exact h'
      · rw [Array.getElem?_eq_none h'] at h3; cases h3
    exact Or.inr ⟨g, cap, cur, h1, h2, by rw [hb.block g hl]; exact h3, h4⟩
theorem repeat_zero (c : Nat) : Lib.repeatL [0] c = List.replicate c 0 := by
  induction c with
  | zero => rfl
  | succ c ih => rw [Lib.repeatL, ih, List.replicate_succ]; rfl
theorem cat2 (l1 l2 : List UInt8) : (ByteArray.mk l1.toArray ++ ByteArray.mk l2.toArray) = ⟨(l1 ++ l2).toArray⟩ := by
  apply ByteArray.ext
  simp [ByteArray.data_append]
theorem cat3 (z l : List UInt8) : (ByteArray.mk #[128] ++ ByteArray.mk z.toArray ++ ByteArray.mk l.toArray) = ⟨(128 :: (z ++ l)).toArray⟩ := by
  apply ByteArray.ext
  simp [ByteArray.data_append]
/-- what padding has at hand when it puts its answer together -/
def PD (w : World) (v : Value) (l : List UInt8) (W : World) : Prop := Below w.heap.size w W ∧ Own W w.heap.size v l
theorem PD.step {w : World} {v : Value} {l : List UInt8} {W w2 : World} (h : PD w v l W) (hb : Below W.heap.size W w2) : PD w v l w2 := ⟨h.1.trans (hb.mono h.1.size), h.2.step hb⟩
set_option maxRecDepth 100000 in
set_option maxHeartbeats 1000000 in
theorem padding_any (n : Nat) (hn : n ≤ 140737488355328) (w : World) : Calls Tryd.prog 17 #[.int .i64 (n : Int)] w (Gives (St (padL n)) w) := by
  obtain ⟨c, hc⟩ : ∃ c, c = (119 - n % 64) % 64 := ⟨_, rfl⟩
  obtain ⟨m, hm⟩ : ∃ m, m = n * 8 % 18446744073709551616 := ⟨_, rfl⟩
  have R := hide (show padL n = 128 :: (List.replicate c 0 ++ leL 8 m) by rw [hc, hm]; rfl)
  have D1 : (119 - (n : Int) % 64) % 64 = (c : Int) := by omega
  have D2 : (n : Int) * 8 = (m : Int) := by omega
  have hc2 : c < 64 := by omega
  have AL := hide (fun W => appendLow_any m 8 (by omega) (by omega) (.slice none 0 0) [] (by simp) w.heap.size W)
  rw [show ((8 : Nat) : Int) = 8 from rfl] at AL
  have RP := hide (fun W => Tryd.strings_Repeat ⟨#[0]⟩ c W (by omega) (show 1 * c ≤ 140737488355328 by omega))
  rw [show (ByteArray.mk #[0]).data.toList = [0] from rfl, repeat_zero c] at RP
  have L8 := leL_length 8 m
  generalize leL 8 m = l at *
  have LR : (List.replicate c (0 : UInt8)).length = c := List.length_replicate
  generalize List.replicate c (0 : UInt8) = z at *
  have N1 : ¬ 9223372036854775807 < 1 + z.length := by omega
  have N2 : ¬ 9223372036854775807 < 1 + z.length + l.length := by omega
  have L8' := hide L8
  clear hc hm L8 LR
  go_enter Tryd.func17, Tryd.ntmps17
  go_wp2_with fail
  refine (AL.out _ (Nat.le_refl _) (own_nil _ _)).mono ?_
  rintro e w2 ⟨v2, rfl, hown2, hb2⟩
  rw [List.nil_append] at hown2
  have P0 : PD w v2 l w2.drew := (show PD w v2 l w2 from ⟨hb2, hown2⟩).step (below_drew _)
  have CV := hide (fun W (h : Own W w.heap.size v2 l) => conv_own h (by have := L8'.out; omega))
  clear AL hown2 hb2
  go_wp2_with fail
  refine wp_region_quiet (C := PD w v2 l) (by kernel_rfl) (by kernel_rfl) P0 (wpQuiet_step (fun K0 hK0 => ?_))
  go_simp
  first | (with_reducible refine hK0 _ (wpQuiet_step (fun K1 hK1 => ?_))) | (with_reducible refine ⟨_, fun _ _ => rfl, hK0 _ (wpQuiet_step (fun K1 hK1 => ?_))⟩) | (rw [if_neg (by intro e; cases e)]; with_reducible refine hK0 _ (wpQuiet_step (fun K1 hK1 => ?_)))
  clear hK0 K0
  go_simp
  refine ⟨.string ⟨z.toArray⟩, fun W hW => ?_, hK1 _ (wpQuiet_step (fun K0 hK0 => ?_))⟩
  · exact (RP.out W).mono fun e w4 ⟨he, hb⟩ => ⟨he, PD.step hW hb⟩
  clear hK1 K1
  go_simp
  first | (with_reducible refine hK0 _ (wpQuiet_step (fun K1 hK1 => ?_))) | (with_reducible refine ⟨_, fun _ _ => rfl, hK0 _ (wpQuiet_step (fun K1 hK1 => ?_))⟩) | (rw [if_neg (by intro e; cases e)]; with_reducible refine hK0 _ (wpQuiet_step (fun K1 hK1 => ?_)))
  clear hK0 K0
  go_simp
  first | (with_reducible refine hK1 _ (wpQuiet_step (fun K0 hK0 => ?_))) | (with_reducible refine ⟨_, fun _ _ => rfl, hK1 _ (wpQuiet_step (fun K0 hK0 => ?_))⟩) | (rw [if_neg (by intro e; cases e)]; with_reducible refine hK1 _ (wpQuiet_step (fun K0 hK0 => ?_)))
  clear hK1 K1
  go_simp
  refine ⟨St l, fun W hW => ?_, hK0 _ (wpQuiet_step (fun K1 hK1 => ?_))⟩
  · ((have cv := CV.out W hW.2; simp [go_sem, cv]))
  clear hK0 K0
  go_simp
  first | (with_reducible refine hK1 _ (wpQuiet_step (fun K0 hK0 => ?_))) | (with_reducible refine ⟨_, fun _ _ => rfl, hK1 _ (wpQuiet_step (fun K0 hK0 => ?_))⟩) | (rw [if_neg (by intro e; cases e)]; with_reducible refine hK1 _ (wpQuiet_step (fun K0 hK0 => ?_)))
  clear hK1 K1
  go_simp
  first | (with_reducible refine hK0 _ (wpQuiet_nil ?_)) | (with_reducible refine ⟨_, fun _ _ => rfl, hK0 _ (wpQuiet_nil ?_)⟩) | (rw [if_neg (by intro e; cases e)]; with_reducible refine hK0 _ (wpQuiet_nil ?_))
  clear hK0 K0
  intro w3 H3
  go_wp2
  go_ret
  refine ⟨?_, H3.1⟩
  rw [R.out]
  exact congrArg (fun b => Ending.returned (.string b)) (cat3 z l)
set_option maxRecDepth 100000 in
set_option maxHeartbeats 1000000 in
theorem md5_any (s : ByteArray) (hs : s.size ≤ 140737488354000) (w : World) (hv : VO w) : Calls Tryd.prog 11 #[.string s] w (Gives (St (md5L s.data.toList)) w) := by
  have PA := hide (fun W => padding_any s.size (by omega) W)
  have HL := text_length s.data.toList
  have HW := text_whole s.data.toList
  have HT := hide (show (s ++ (⟨(padL s.size).toArray⟩ : ByteArray)).data.toList = textL s.data.toList from by simp [ByteArray.data_append, textL])
  have PL := pad_length s.size
  obtain ⟨N, hN⟩ : ∃ N, N = (textL s.data.toList).length / 64 := ⟨_, rfl⟩
  have HR := hide (show md5L s.data.toList = bytesS (blocksS N start4 (textL s.data.toList)) by rw [hN]; rfl)
  have sz : s.data.toList.length = s.size := rfl
  rw [sz] at HL
  clear sz
  generalize textL s.data.toList = T at *
  generalize md5L s.data.toList = res at *
  generalize padL s.size = l at *
  have N1 : ¬ 9223372036854775807 < s.size + l.length := by omega
  have HTs : (s ++ (⟨l.toArray⟩ : ByteArray)).size = T.length := by rw [← HT.out]; rfl
  have HN := hide (show T.length = 64 * N by omega)
  clear PL hN HW
  go_enter Tryd.func11, Tryd.ntmps11
  go_wp2_with fail
  refine (PA.out _).mono ?_
  rintro e w1 ⟨rfl, hb1⟩
  have V1 := hv.step hb1
  obtain ⟨⟨g0, g1, g2, g3⟩, _⟩ := id V1
  have F0 := four_new w1 start4 36
  have O0 : Ok4 start4 := ⟨by decide, by decide, by decide, by decide⟩
  have B0 : Below w.heap.size w (w1.alloc (.cells #[U start4.a, U start4.b, U start4.c, U start4.d] 36)) := hb1.alloc hb1.size _
  go_wp2_with fail
  clear g0 g1 g2 g3
  generalize s ++ (⟨l.toArray⟩ : ByteArray) = tb at *
  have TS := hide (show tb.size = 64 * N from HTs.trans HN.out)
  clear HTs N1 PA
  have LW := hb1.size
  clear hb1 V1
  generalize w1.heap.size = g at *
  have N2 : tb.size < 9223372036854770000 := by have := TS.out; have := HN.out; omega
  go_loopw [5] (fun v wr => ∃ (k j : Nat) (y : S4), k ≤ N ∧ Hid (j = 64 * k) ∧ v = .int .i64 (j : Int) ∧ Ok4 y ∧ Four g y wr ∧ Below w.heap.size w wr ∧ Hid (blocksS (N - k) y (T.drop j) = blocksS N start4 T)) (fun v _ => 64 * N - (intOf v).toNat)
  case atStart => exact ⟨0, 0, start4, Nat.zero_le _, hide rfl, rfl, O0, F0, B0, hide rfl⟩
  case round =>
    clear F0 O0 B0
    obtain ⟨k, j, y, hk, J, rfl, OK, F, hb, E⟩ := hrel
    by_cases hlt : k < N
    · obtain ⟨j2, hj2⟩ : ∃ j2, j2 = j + 64 := ⟨_, rfl⟩
      have h1 : (j : Int) < (tb.size : Int) := by have := J.out; have := TS.out; omega
      have h2 : (j2 : Int) ≤ (tb.size : Int) := by have := J.out; have := TS.out; omega
      have h3 : (j : Int) ≤ (j2 : Int) := by omega
      have D1 : IntKind.i64.wrap (j2 : Int) = (j2 : Int) := IntWalk.i64_in _ ⟨by omega, by omega⟩
      have D2 : (j : Int) + 64 = (j2 : Int) := by omega
      have ez : (tb.extract j j2).size = 64 := by rw [ByteArray.size_extract]; omega
      have el : (tb.extract j j2).data.toList = (T.drop j).take 64 := by
        rw [ByteArray.data_extract, Array.toList_extract, List.extract_eq_take_drop, HT.out]
        congr 1; omega
      have AD := hide (fun W hV => add_any y (tb.extract j j2) OK ez W hV)
      rw [el] at AD
      have E2 := hide (show blocksS (N - (k + 1)) (blockS y ((T.drop j).take 64)) (T.drop j2) = blocksS N start4 T by
        rw [← E.out, show N - k = (N - (k + 1)) + 1 by omega, blocksS, List.drop_drop, hj2])
      have OK2 : Ok4 (blockS y ((T.drop j).take 64)) := sum_ok _ _
      generalize blockS y ((T.drop j).take 64) = y2 at *
      have HJ := hide hj2
      clear hj2 ez el E
      obtain ⟨lg0, _⟩ := id F
      go_wp2_with fail
      refine region_tail (C := fun W => Below w.heap.size w W ∧ Four g y W ∧ VO W) 6 (by kernel_rfl) (by kernel_rfl) ⟨hb.drew, F.step (below_drew _), (hv.step hb).step (below_drew _)⟩ fun W ⟨HB, HF, HV⟩ => ?_
      obtain ⟨_, ⟨u0, u1, u2, u3⟩, _⟩ := id HF
      simp only [List.take_succ_cons, List.take_zero, List.drop_succ_cons, List.drop_zero]
      iterate 6 still_step
      refine wpStill_nil ?_
      clear u0 u1 u2 u3
      go_wp2_with fail
      refine (AD.out _ HV).mono ?_
      rintro e w3 ⟨rfl, hb3⟩
      have HF3 := HF.step hb3
      have HB3 := chain HB hb3
      obtain ⟨_, ⟨u0, u1, u2, u3⟩, z0, z1, z2, z3⟩ := id HF3
      clear HV AD hb3 HF HB
      go_wp2
      go_roundw
      case rel =>
        refine ⟨k + 1, j2, y2, by omega, hide (by have := HJ.out; have := J.out; omega), by go_num, OK2, HF3.set4, ?_, E2⟩
        exact below_set (below_set (below_set (below_set HB3 LW _ _) LW _ _) LW _ _) LW _ _
      case measure => have := HJ.out; have := TS.out; simp [intOf] <;> omega
    · have h1 : ¬ (j : Int) < (tb.size : Int) := by have := J.out; have := TS.out; omega
      have E2 := hide (show blocksS N start4 T = y by rw [← E.out, show N - k = 0 by omega]; rfl)
      have BY := hide (fun W => bytes_any y OK W)
      rw [show bytesS y = res by rw [HR.out, E2.out]] at BY
      obtain ⟨_, ⟨u0, u1, u2, u3⟩, _⟩ := id F
      clear E E2 HR
      go_wp2_with fail
      refine (BY.out _).mono ?_
      rintro e w3 ⟨rfl, hb3⟩
      go_wp2
      go_ret
      exact ⟨rfl, chain hb hb3⟩
end Go.Proofs.YtiickcdkibcdpaaDoor
