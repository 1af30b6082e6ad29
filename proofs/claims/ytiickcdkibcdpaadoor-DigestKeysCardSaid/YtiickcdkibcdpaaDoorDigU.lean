/-
  The contract of the document's own MD5. Condition: a string takes at most 2^47 - 2800 bytes; the variables hold what their texts lay.
-/
import Derived.Test.YtiickcdkibcdpaaDoorDigT
namespace Go.Proofs.YtiickcdkibcdpaaDoor
open Go.RowKit Go.Joins

/-- the variables of the document's own package hold what its text lays -/
def RO (W : World) : Prop := (∀ j, j < 64 → W.cell? ⟨1, j, none⟩ = some (U (sine j))) ∧ ∀ j, j < 16 → W.cell? ⟨2, j, none⟩ = some (.int .u64 (turn j : Nat))
theorem RO.step {W w2 : World} (h : RO W) (hb : Below W.heap.size W w2) : RO w2 := ⟨fun j hj => keep_cell hb (h.1 j hj), fun j hj => keep_cell hb (h.2 j hj)⟩

theorem grow_set (W : World) (g j : Nat) (v : Value) : W.grownBy (W.setCell ⟨g, j, none⟩ v) (some g) :=
  ⟨rfl, rfl, rfl, by simp, fun k _ hne => Below.heap_setCell W ⟨g, j, none⟩ v k (fun e => hne (by rw [e]))⟩
theorem Four.grow {g : Nat} {x : S4} {W w2 : World} {r : Option Nat} (h : Four g x W) (hb : W.grownBy w2 r) (hn : some g ≠ r) : Four g x w2 := by
  obtain ⟨h1, ⟨u0, u1, u2, u3⟩, f0, f1, f2, f3⟩ := h
  have e := hb.block g h1 hn
  have k := fun i => World.cell?_of_block (a := ⟨g, i, none⟩) e
  have f := fun i => World.frozen?_of_block (a := ⟨g, i, none⟩) e
  exact ⟨Nat.lt_of_lt_of_le h1 hb.size, ⟨(k 0).trans u0, (k 1).trans u1, (k 2).trans u2, (k 3).trans u3⟩, (f 0).trans f0, (f 1).trans f1, (f 2).trans f2, (f 3).trans f3⟩
theorem Four.wd {g : Nat} {x : S4} {W : World} (h : Four g x W) : ∀ i, i < 4 → W.cell? ⟨g, i, none⟩ = some (U (match i with | 0 => x.a | 1 => x.b | 2 => x.c | _ => x.d))
  | 0, _ => h.2.1.1
  | 1, _ => h.2.1.2.1
  | 2, _ => h.2.1.2.2.1
  | 3, _ => h.2.1.2.2.2
theorem add_assoc32 (a f x n : Nat) : add32 (add32 (add32 a f) x) n = add32 a (add32 (add32 f x) n) := by unfold add32; omega
/-- what stands about a block's reckoning: the sums at H, the text at gt, the words at g6 -/
def MR (w : World) (H gt ct : Nat) (T : List UInt8) (S : S4) (g6 : Nat) (ws : List Nat) (W : World) : Prop :=
  Below w.heap.size w W ∧ Four H S W ∧ RB w.heap.size gt T.length ct T W ∧ Row g6 ws W
theorem MR.step {w : World} {H gt ct : Nat} {T : List UInt8} {S : S4} {g6 : Nat} {ws : List Nat} {W w2 : World} (h : MR w H gt ct T S g6 ws W) (hb : Below W.heap.size W w2) : MR w H gt ct T S g6 ws w2 :=
  ⟨chain h.1 hb, h.2.1.step hb, h.2.2.1.step hb, h.2.2.2.step hb⟩

set_option maxRecDepth 100000 in
set_option maxHeartbeats 2000000 in
theorem rmd5_any (s : ByteArray) (hs : s.size ≤ 140737488354000) (w : World) (hr : RO w) : Calls Tryd.prog 12 #[.string s] w (Gives (St (md5L s.data.toList)) w) := by
  have TA := hide (rtext_any s hs w)
  have TW := text_whole s.data.toList
  have TL := text_length s.data.toList
  have hL : s.data.toList.length = s.size := rfl
  rw [hL] at TL
  clear hL
  obtain ⟨N, hN⟩ : ∃ N, N = (textL s.data.toList).length / 64 := ⟨_, rfl⟩
  have M5 := hide (show md5L s.data.toList = bytesS (blocksS N start4 (textL s.data.toList)) by rw [hN]; rfl)
  generalize textL s.data.toList = T at *
  generalize md5L s.data.toList = RES at *
  have HN := hide (show T.length = 64 * N by omega)
  have TM : T.length ≤ 140737488354072 := by omega
  clear hN TW TL
  go_enter Tryd.func12, Tryd.ntmps12
  go_wp2_with fail
  refine TA.out.mono ?_
  rintro e w1 ⟨gt, ct, rfl, RT, HB1⟩
  have F0 := four_new w1 start4 35
  have O0 : Ok4 start4 := ⟨by decide, by decide, by decide, by decide⟩
  have B0 : Below w.heap.size w (w1.alloc (.cells #[U start4.a, U start4.b, U start4.c, U start4.d] 35)) := HB1.alloc HB1.size _
  have RT0 := RT.step (below_alloc w1 (.cells #[U start4.a, U start4.b, U start4.c, U start4.d] 35))
  go_wp2_with fail
  have LW := HB1.size
  have LG : gt < w1.heap.size := RT.2.1
  clear TA HB1 RT
  generalize w1.heap.size = H at *
  go_loopw [5] (fun v wr => ∃ (j A : Nat) (S : S4), j ≤ N ∧ Hid (A = 64 * j) ∧ v = .int .i64 (A : Int) ∧ Ok4 S ∧ Four H S wr ∧ RB w.heap.size gt T.length ct T wr ∧ Below w.heap.size w wr ∧ Hid (blocksS (N - j) S (T.drop A) = blocksS N start4 T)) (fun v _ => 64 * N - (intOf v).toNat)
  case atStart => exact ⟨0, 0, start4, Nat.zero_le _, hide rfl, rfl, O0, F0, RT0, B0, hide rfl⟩
  case round =>
    clear F0 O0 B0 RT0
    obtain ⟨j, A, S, hj, J, rfl, OK, F, R, hb, E⟩ := hrel
    by_cases hlt : j < N
    · have h1 : (A : Int) < (T.length : Int) := by have := J.out; have := HN.out; omega
      obtain ⟨B, hB⟩ : ∃ B, B = (T.drop A).take 64 := ⟨_, rfl⟩
      have BT := hide (show ∀ i, i < 64 → T[A + i]? = some (B.getD i 0) from fun i hi => by
        have : A + i < T.length := by have := J.out; have := HN.out; omega
        rw [hB, List.getD_eq_getElem?_getD, List.getElem?_take, if_pos hi, List.getElem?_drop, List.getElem?_eq_getElem this]; rfl)
      have E2 := hide (show blocksS (N - (j + 1)) (sumS S (stepsS (wordsL B) 64 S)) (T.drop (A + 64)) = blocksS N start4 T by
        rw [← E.out, show N - j = (N - (j + 1)) + 1 by omega, blocksS, List.drop_drop, hB]; rfl)
      have A2 : A + 64 ≤ T.length := by have := J.out; have := HN.out; omega
      clear hB E
      have M0 : MR w H gt ct T S wr.heap.size (wAcc B 0) (wr.alloc (.cells #[.int .u32 0, .int .u32 0, .int .u32 0, .int .u32 0, .int .u32 0, .int .u32 0, .int .u32 0, .int .u32 0, .int .u32 0, .int .u32 0, .int .u32 0, .int .u32 0, .int .u32 0, .int .u32 0, .int .u32 0, .int .u32 0] 40)) :=
        ⟨hb.alloc hb.size _, F.step (below_alloc _ _), R.step (below_alloc _ _), row_lit wr _⟩
      have LH := F.1
      have LZ := hb.size
      clear F R hb
      go_wp2_with fail
      generalize wr.heap.size = g6 at *
      go_loopw [7] (fun i wr => ∃ k : Nat, k ≤ 64 ∧ i = .int .i64 (k : Int) ∧ MR w H gt ct T S g6 (wAcc B k) wr) (fun i _ => 64 - (intOf i).toNat)
      case atStart => exact ⟨0, by omega, rfl, M0⟩
      case round =>
        clear M0
        obtain ⟨k, hk, rfl, MRk⟩ := hrel
        by_cases hlt : k < 64
        · obtain ⟨q, hq⟩ : ∃ q, q = k / 4 := ⟨_, rfl⟩
          obtain ⟨m, hm⟩ : ∃ m, m = k % 4 := ⟨_, rfl⟩
          obtain ⟨n, hn⟩ : ∃ n, n = 8 * m := ⟨_, rfl⟩
          have CT := hide (fun W (h : MR w H gt ct T S g6 (wAcc B k) W) => h.2.2.1.at (BT.out k hlt))
          obtain ⟨a2, ha2⟩ : ∃ a2, a2 = A + k := ⟨_, rfl⟩
          rw [← ha2] at CT
          have hbk := byte_lt (B.getD k 0)
          have hb2 := wAcc_u32 B (k + 1) q
          have hsh := wAcc_shl B k
          have hnx := hide (wAcc_next B k hlt)
          have had : (wAcc B (k + 1)).getD q 0 = (wAcc B k).getD q 0 + (B.getD k 0).toNat * 2 ^ (8 * (k % 4)) := by
            rw [wAcc, wstep, getD_set, if_pos ⟨hq.symm, by rw [wAcc_length]; omega⟩, hq]
          have D1 : IntKind.i64.wrap ((k : Int) / 4) = (q : Int) := by rw [IntWalk.i64_in _ ⟨by omega, by omega⟩]; omega
          have D2 : (k : Int).tmod 4 = (m : Int) := by rw [Int.tmod_eq_emod_of_nonneg (by omega)]; omega
          have D3 : IntKind.i64.wrap ((m : Int) * 8) = (n : Int) := by rw [IntWalk.i64_in _ ⟨by omega, by omega⟩]; omega
          have q16 : (q : Int) < 16 := by omega
          have n32 : (n : Int) < 32 := by omega
          have n0 : (0 : Int) ≤ (n : Int) := by omega
          rw [← hm, ← hn] at hsh had
          rw [← hq] at hnx
          have X := hide (fun W (h : MR w H gt ct T S g6 (wAcc B k) W) => h.2.2.2.2.2.1 q (by omega))
          have R5 := hide (fun W (h : MR w H gt ct T S g6 (wAcc B k) W) => h.2.2.2.set (j := q) (x := (wAcc B (k + 1)).getD q 0) (by omega))
          rw [hnx.out] at R5
          generalize (wAcc B k).getD q 0 = x at *
          generalize (wAcc B (k + 1)).getD q 0 = y at *
          generalize B.getD k 0 = b at *
          obtain ⟨z, hz⟩ : ∃ z, z = b.toNat * 2 ^ n := ⟨_, rfl⟩
          rw [← hz] at had hsh
          have D4 : (b.toNat : Int) * 2 ^ n % 4294967296 = (z : Int) := by
            have : ((b.toNat * 2 ^ n : Nat) : Int) = (b.toNat : Int) * 2 ^ n := by rw [Int.natCast_mul, Int.natCast_pow]; rfl
            rw [← this, ← hz]; omega
          have D5 : IntKind.u32.wrap ((b.toNat : Int) * 2 ^ n) = (z : Int) := by rw [IntKind.wrap_u32]; exact D4
          have D6 : (x : Int) + (z : Int) = (y : Int) := by omega
          have D7 : IntKind.u32.wrap (b.toNat : Int) = (b.toNat : Int) := by rw [IntKind.wrap_u32]; omega
          have D8 : IntKind.u32.wrap (y : Int) = (y : Int) := by rw [IntKind.wrap_u32]; omega
          have q16' : q < 16 := by omega
          have D9 : IntKind.i64.wrap ((A : Int) + (k : Int)) = (a2 : Int) := by rw [IntWalk.i64_in _ ⟨by omega, by omega⟩]; omega
          have k64 : (a2 : Int) < (T.length : Int) := by omega
          have k0 : (0 : Int) ≤ (a2 : Int) := by omega
          have VV := hide (show ((x : Int) + (b.toNat : Int) * 2 ^ min (IntKind.u64.wrap (wrap64 (8 * (m : Int)))).toNat 32) % 4294967296 = (y : Int) by
            have e1 : wrap64 (8 * (m : Int)) = (n : Int) := by unfold wrap64; omega
            have e2 : IntKind.u64.wrap (n : Int) = (n : Int) := IntWalk.u64_in _ ⟨by omega, by omega⟩
            rw [e1, e2, show min ((n : Int)).toNat 32 = n by omega]
            have e3 : ((b.toNat * 2 ^ n : Nat) : Int) = (b.toNat : Int) * 2 ^ n := by rw [Int.natCast_mul, Int.natCast_pow]; rfl
            rw [← e3, ← hz]; omega)
          clear hq hm hn hz had hsh ha2
          go_wp2_with fail
          refine region_tail (C := MR w H gt ct T S g6 (wAcc B k)) 20 (by kernel_rfl) (by kernel_rfl) (MRk.step (below_drew _)) fun W MW => ?_
          clear MRk
          have CK := X.out W MW
          have CB := CT.out W MW
          have FK := MW.2.2.2.2.2.2 q
          unfold byteV at CB
          simp only [List.take_succ_cons, List.take_zero, List.drop_succ_cons, List.drop_zero]
          iterate 20 still_step
          refine wpStill_nil ?_
          go_wp2
          rw [VV.out]
          go_roundw
          case rel =>
            refine ⟨k + 1, by omega, by go_num, MW.1.setCell (by dsimp only; omega) _, MW.2.1.grow (grow_set W g6 q _) (by simp; omega), MW.2.2.1.other (grow_set W g6 q _) (by simp; omega), R5.out W MW⟩
          case measure => simp [intOf] <;> omega
        · have ek : k = 64 := by omega
          have hl2 : ¬ (k : Int) < 64 := by omega
          have E := hide (show wordsL B = wAcc B 64 from rfl)
          rw [ek, ← E.out] at MRk
          clear ek hlt hk
          have LW32 := hide (fun i => wAcc_u32 B 64 i)
          rw [← E.out] at LW32
          have O64 := hide (fun k => steps_ok (w := wordsL B) OK k)
          generalize wordsL B = ws at *
          clear E BT
          obtain ⟨_, ⟨u0, u1, u2, u3⟩, _⟩ := id MRk.2.1
          go_wp2_with fail
          clear u0 u1 u2 u3
          go_loopw [8, 9, 10, 11, 12] (fun va vb vc vd i wr => ∃ k : Nat, k ≤ 64 ∧ i = .int .i64 (k : Int) ∧ va = U (stepsS ws k S).a ∧ vb = U (stepsS ws k S).b ∧ vc = U (stepsS ws k S).c ∧ vd = U (stepsS ws k S).d ∧ MR w H gt ct T S g6 ws wr) (fun _ _ _ _ i _ => 64 - (intOf i).toNat)
          case atStart => exact ⟨0, by omega, rfl, rfl, rfl, rfl, rfl, MRk⟩
          case round =>
            clear MRk
            obtain ⟨k, hk, rfl, rfl, rfl, rfl, rfl, MRk⟩ := hrel
            have OKk := O64.out k
            by_cases hlt : k < 64
            · obtain ⟨y1, hy1⟩ : ∃ y1, y1 = stepsS ws (k + 1) S := ⟨_, rfl⟩
              have NX := hide (show y1 = stepS ws k (stepsS ws k S) from hy1)
              have HY := hide hy1
              clear hy1
              generalize stepsS ws k S = y at *
              have RS := hide (fun W => rstep_any k y.b y.c y.d hlt OKk.2.1 OKk.2.2.1 OKk.2.2.2 W)
              have K16 := mixK_lt hlt
              have kk16 : (mixK k : Int) < 16 := by omega
              have k64 : (k : Int) < 64 := by omega
              obtain ⟨t, ht⟩ : ∃ t, t = k / 16 * 4 + k % 4 := ⟨_, rfl⟩
              have t16 : t < 16 := by omega
              have HT := turn_lt t t16
              have n32 : (turn t : Int) < 32 := by omega
              have n1 : (0 : Int) ≤ (turn t : Int) := by omega
              have NY := hide (show y1 = ⟨y.d, add32 y.b (rot32 (add32 (add32 (add32 y.a (mixF k y.b y.c y.d)) (ws.getD (mixK k) 0)) (sine k)) (turn t)), y.b, y.c⟩ by
                rw [NX.out, add_assoc32, ht]; rfl)
              clear NX
              have XW := hide (fun W (h : MR w H gt ct T S g6 ws W) => h.2.2.2.2.2.1 (mixK k) K16)
              have XS := hide (fun W (h : MR w H gt ct T S g6 ws W) => (hr.step h.1).1 k hlt)
              have XT := hide (fun W (h : MR w H gt ct T S g6 ws W) => (hr.step h.1).2 t t16)
              generalize mixF k y.b y.c y.d = f at *
              generalize mixK k = kk at *
              generalize ws.getD kk 0 = x at *
              generalize sine k = sn at *
              generalize turn t = n at *
              have W1 := wrap_add y.a f
              have W2 := mod_add y.a f
              have W3 := wrap_add (add32 y.a f) x
              have W4 := mod_add (add32 y.a f) x
              have W5 := wrap_add (add32 (add32 y.a f) x) sn
              have W6 := mod_add (add32 (add32 y.a f) x) sn
              have p3 := add_lt (add32 (add32 y.a f) x) sn
              generalize add32 (add32 (add32 y.a f) x) sn = p at *
              generalize add32 (add32 y.a f) x = p2 at *
              generalize add32 y.a f = p1 at *
              have RE := rot_eq (n := n) p3
              have W7 := wrap_add y.b (rot32 p n)
              have W8 := mod_add y.b (rot32 p n)
              generalize rot32 p n = ro at *
              generalize add32 y.b ro = yb at *
              go_wp2_with fail
              refine (RS.out _).mono ?_
              rintro e w' ⟨rfl, rfl⟩
              go_wp2_with fail
              refine region_tail (C := MR w H gt ct T S g6 ws) 11 (by kernel_rfl) (by kernel_rfl) (MRk.step (below_drew _)) fun W MW => ?_
              clear MRk
              have CW := XW.out W MW
              have CS := XS.out W MW
              simp only [List.take_succ_cons, List.take_zero, List.drop_succ_cons, List.drop_zero]
              iterate 11 still_step
              refine wpStill_nil ?_
              clear CW CS
              have CT := XT.out W MW
              rw [ht] at CT
              go_wp2
              go_roundw
              case rel => exact ⟨k + 1, by omega, by go_num, by rw [← HY.out, NY.out], by rw [← HY.out, NY.out], by rw [← HY.out, NY.out], by rw [← HY.out, NY.out], MW⟩
              case measure => simp [intOf] <;> omega
            · have ek : k = 64 := by omega
              have hl3 : ¬ (k : Int) < 64 := by omega
              rw [ek]
              clear ek hlt hk OKk
              have W1 := wrap_add S.a (stepsS ws 64 S).a
              have W2 := mod_add S.a (stepsS ws 64 S).a
              have W3 := wrap_add S.b (stepsS ws 64 S).b
              have W4 := mod_add S.b (stepsS ws 64 S).b
              have W5 := wrap_add S.c (stepsS ws 64 S).c
              have W6 := mod_add S.c (stepsS ws 64 S).c
              have W7 := wrap_add S.d (stepsS ws 64 S).d
              have W8 := mod_add S.d (stepsS ws 64 S).d
              generalize stepsS ws 64 S = y at *
              have OK2 := sum_ok S y
              obtain ⟨_, ⟨u0, u1, u2, u3⟩, z0, z1, z2, z3⟩ := id MRk.2.1
              go_wp2
              go_roundw
              case rel =>
                obtain ⟨m1, m2, m3, _⟩ := MRk
                refine ⟨j + 1, A + 64, sumS S y, by omega, hide (by have := J.out; omega), by go_num, OK2, m2.set4 (y := sumS S y), ?_, ?_, E2⟩
                · exact (((m3.other (grow_set _ H _ _) (by simp; omega)).other (grow_set _ H _ _) (by simp; omega)).other (grow_set _ H _ _) (by simp; omega)).other (grow_set _ H _ _) (by simp; omega)
                · exact below_set (below_set (below_set (below_set m1 LW _ _) LW _ _) LW _ _) LW _ _
              case measure => have := J.out; simp [intOf] <;> omega
    · have h1 : ¬ (A : Int) < (T.length : Int) := by have := J.out; have := HN.out; omega
      have E2 := hide (show RES = bytesS S by rw [M5.out, ← E.out, show N - j = 0 by omega]; rfl)
      have R0 := rb_empty wr 5
      have B0 := hb.alloc hb.size (.cells #[] 5)
      have F0 := F.step (below_alloc wr (.cells #[] 5))
      have LH := F.1
      have OK' := hide OK
      clear E M5 HN F R OK
      go_wp2_with fail
      have BZ0 := hb.size
      have BZ1 : wr.heap.size ≤ (wr.alloc (.cells #[] 5)).heap.size := by simp
      generalize wr.heap.size = BZ at *
      go_loopw [17, 18] (fun v i wq => ∃ (k g n cap : Nat), k ≤ 4 ∧ i = .int .i64 (k : Int) ∧ n = 4 * k ∧ v = .slice (some ⟨g, 0, none⟩) n cap ∧ RB BZ g n cap (upS S k) wq ∧ Four H S wq ∧ Below w.heap.size w wq ∧ BZ ≤ wq.heap.size) (fun _ i _ => 4 - (intOf i).toNat)
      case atStart => exact ⟨0, _, 0, 0, by omega, rfl, rfl, rfl, R0, F0, B0, BZ1⟩
      case round =>
        clear R0 B0 F0 BZ1
        obtain ⟨k, g, n, cap, hk, rfl, hn, rfl, R, F, hb2, hz2⟩ := hrel
        by_cases hlt : k < 4
        · have k4 : (k : Int) < 4 := by omega
          obtain ⟨x, hx⟩ : ∃ x, x = (match k with | 0 => S.a | 1 => S.b | 2 => S.c | _ => S.d) := ⟨_, rfl⟩
          have FW := hide (fun W (h : Four H S W) => hx ▸ h.wd k hlt)
          have XL : x < 4294967296 := by
            have O := OK'.out
            obtain ⟨o1, o2, o3, o4⟩ := O
            rw [hx]
            rcases (show k = 0 ∨ k = 1 ∨ k = 2 ∨ k = 3 by omega) with rfl | rfl | rfl | rfl <;> assumption
          have UP := hide (show upS S (k + 1) = upS S k ++ leL 4 x by
            rw [hx]
            rcases (show k = 0 ∨ k = 1 ∨ k = 2 ∨ k = 3 by omega) with rfl | rfl | rfl | rfl <;> rfl)
          clear hx
          go_wp2_with fail
          go_loopw [17, 19] (fun v i wq => ∃ (m g n' cap : Nat), m ≤ 4 ∧ i = .int .i64 (m : Int) ∧ n' = 4 * k + m ∧ v = .slice (some ⟨g, 0, none⟩) n' cap ∧ RB BZ g n' cap (upS S k ++ leL m x) wq ∧ Four H S wq ∧ Below w.heap.size w wq ∧ BZ ≤ wq.heap.size) (fun _ i _ => 4 - (intOf i).toNat)
          case atStart => exact ⟨0, g, n, cap, by omega, rfl, hn, rfl, by simpa [leL] using R, F, hb2, hz2⟩
          case round =>
            clear R F hb2 hz2
            obtain ⟨m, g, n', cap, hm, rfl, hn', rfl, R, F, hb2, hz2⟩ := hrel
            have c2 : n' ≤ 140737488355000 := by omega
            have HNn := hide hn'
            clear hn'
            by_cases hlt : m < 4
            · obtain ⟨b, hB⟩ : ∃ b : UInt8, b = UInt8.ofNat (x / 2 ^ (8 * m) % 256) := ⟨_, rfl⟩
              have RA := R.step (below_alloc wr (.cells #[byteV b] 5))
              have FA := F.step (below_alloc wr (.cells #[byteV b] 5))
              have HB := hb2.alloc (Nat.le_trans hb2.size (Nat.le_refl _)) (.cells #[byteV b] 5)
              have LR := R.1
              have BTn : b.toNat = x / 2 ^ (8 * m) % 256 := by rw [hB]; simp
              have b0 := byte_lt b
              have SN := hide (show (upS S k ++ leL m x) ++ [b] = upS S k ++ leL (m + 1) x by rw [leL_snoc, ← hB]; simp)
              have FX := FW.out wr F
              clear hB R FW
              have LZ := hb2.size
              have gH : g ≠ H := by omega
              rcases (show m = 0 ∨ m = 1 ∨ m = 2 ∨ m = 3 by omega) with rfl | rfl | rfl | rfl
              · have SB : (x : Int) % 256 = (b.toNat : Int) := by
                  rw [BTn]; simp only [Nat.reduceMul, Nat.reducePow]; omega
                clear BTn
                go_wp2_with (at_builtin; refine wpList_push rfl _ _ rfl BZ _ _ _ _ rfl RA b ⟨wr.heap.size, 0, none⟩ rfl (one_at wr b 5) c2 (by simp; omega) ?_; intro g2 cap2 w4 R2 GB _ HB2)
                rw [SN.out] at R2
                have HB3 := HB.trans (HB2.mono (show w.heap.size ≤ BZ by omega))
                have F3 := FA.grow GB (by simp; omega)
                have Z3 : BZ ≤ w4.heap.size := Nat.le_trans (by simp; omega) HB2.size
                clear RA HB HB2 hb2 SB GB FA FX F
                go_roundw
                case rel => exact ⟨1, g2, n' + 1, cap2, by omega, rfl, by have := HNn.out; omega, rfl, R2, F3, HB3, Z3⟩
                case measure => simp [intOf]
              · have SB : (x : Int) / 256 % 256 = (b.toNat : Int) := by
                  rw [BTn]; simp only [Nat.reduceMul, Nat.reducePow]; omega
                clear BTn
                go_wp2_with (at_builtin; refine wpList_push rfl _ _ rfl BZ _ _ _ _ rfl RA b ⟨wr.heap.size, 0, none⟩ rfl (one_at wr b 5) c2 (by simp; omega) ?_; intro g2 cap2 w4 R2 GB _ HB2)
                rw [SN.out] at R2
                have HB3 := HB.trans (HB2.mono (show w.heap.size ≤ BZ by omega))
                have F3 := FA.grow GB (by simp; omega)
                have Z3 : BZ ≤ w4.heap.size := Nat.le_trans (by simp; omega) HB2.size
                clear RA HB HB2 hb2 SB GB FA FX F
                go_roundw
                case rel => exact ⟨2, g2, n' + 1, cap2, by omega, rfl, by have := HNn.out; omega, rfl, R2, F3, HB3, Z3⟩
                case measure => simp [intOf]
              · have SB : (x : Int) / 65536 % 256 = (b.toNat : Int) := by
                  rw [BTn]; simp only [Nat.reduceMul, Nat.reducePow]; omega
                clear BTn
                go_wp2_with (at_builtin; refine wpList_push rfl _ _ rfl BZ _ _ _ _ rfl RA b ⟨wr.heap.size, 0, none⟩ rfl (one_at wr b 5) c2 (by simp; omega) ?_; intro g2 cap2 w4 R2 GB _ HB2)
                rw [SN.out] at R2
                have HB3 := HB.trans (HB2.mono (show w.heap.size ≤ BZ by omega))
                have F3 := FA.grow GB (by simp; omega)
                have Z3 : BZ ≤ w4.heap.size := Nat.le_trans (by simp; omega) HB2.size
                clear RA HB HB2 hb2 SB GB FA FX F
                go_roundw
                case rel => exact ⟨3, g2, n' + 1, cap2, by omega, rfl, by have := HNn.out; omega, rfl, R2, F3, HB3, Z3⟩
                case measure => simp [intOf]
              · have SB : (x : Int) / 16777216 = (b.toNat : Int) := by
                  rw [BTn]; simp only [Nat.reduceMul, Nat.reducePow]; omega
                clear BTn
                go_wp2_with (at_builtin; refine wpList_push rfl _ _ rfl BZ _ _ _ _ rfl RA b ⟨wr.heap.size, 0, none⟩ rfl (one_at wr b 5) c2 (by simp; omega) ?_; intro g2 cap2 w4 R2 GB _ HB2)
                rw [SN.out] at R2
                have HB3 := HB.trans (HB2.mono (show w.heap.size ≤ BZ by omega))
                have F3 := FA.grow GB (by simp; omega)
                have Z3 : BZ ≤ w4.heap.size := Nat.le_trans (by simp; omega) HB2.size
                clear RA HB HB2 hb2 SB GB FA FX F
                go_roundw
                case rel => exact ⟨4, g2, n' + 1, cap2, by omega, rfl, by have := HNn.out; omega, rfl, R2, F3, HB3, Z3⟩
                case measure => simp [intOf]
            · have em : m = 4 := by omega
              have hl3 : ¬ (m : Int) < 4 := by omega
              rw [em, ← UP.out] at R
              have hn2 := hide (show n' = 4 * (k + 1) by have := HNn.out; omega)
              clear em hlt hm
              go_wp2
              go_roundw
              case rel => exact ⟨k + 1, g, n', cap, by omega, by go_num, hn2.out, rfl, R, F, hb2, hz2⟩
              case measure => simp [intOf] <;> omega
        · have ek : k = 4 := by omega
          have hl3 : ¬ (k : Int) < 4 := by omega
          have R2 : RB BZ g n cap RES wr := by rw [E2.out]; rw [ek] at R; exact R
          clear ek hlt hk R hn
          have CV := conv_rb R2
          go_wp2
          go_ret
          exact ⟨rfl, hb2⟩
end Go.Proofs.YtiickcdkibcdpaaDoor
