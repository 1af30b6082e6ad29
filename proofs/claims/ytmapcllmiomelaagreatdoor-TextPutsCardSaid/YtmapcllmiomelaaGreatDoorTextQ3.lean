/-
  The contract of the document's own text of an address of 128 bits. Condition: the words are words of 64 bits (every value of the type is such).
-/
import Derived.Test.YtmapcllmiomelaaGreatDoorTextQ2
namespace Go.Proofs.YtmapcllmiomelaaGreatDoor
open Go.RowKit Go.Joins

/-- what stands about a step of Put6: a box and the groups -/
def HP6 (w : World) (a g3 : Nat) (W : World) : Prop := Below w.heap.size w W ∧ w.heap.size ≤ g3 ∧ RowU g3 (grpA a) W
theorem HP6.step {w : World} {a g3 : Nat} {W w2 : World} (h : HP6 w a g3 W) (hb : Below W.heap.size W w2) : HP6 w a g3 w2 := ⟨chain h.1 hb, h.2.1, h.2.2.step hb⟩
theorem run_more {g : Nat → Nat} {k j : Nat} (h : g j = 0) : runR g (k + 1) j = runR g k (j + 1) + 1 := by simp only [runR]; rw [if_pos h]
theorem run_stop {g : Nat → Nat} {k j : Nat} (h : k = 0 ∨ g j ≠ 0) : runR g k j = 0 := by
  cases k with
  | zero => rfl
  | succ k => simp only [runR]; rw [if_neg (h.resolve_left (by omega))]
theorem preS_len (a F T i : Nat) (hi : i ≤ 8) : (preS (grpA a) F T i).length ≤ 100 := by
  have hr : ∀ o n, (putG (rowA (grpA a) o n)).length ≤ 5 * n := fun o n => by
    have h := putG_len (rowA (grpA a) o n) (fun x hx => by
      unfold rowA at hx
      obtain ⟨j, _, rfl⟩ := List.mem_map.1 hx
      exact grpA_lt a _)
    rwa [rowA_len] at h
  unfold preS
  have h1 := hr 0 i
  have h2 := hr 0 F
  have h3 := hr T (i - T)
  split
  · omega
  · rename_i h
    simp only [List.length_append, List.length_cons, List.length_nil]
    omega
theorem wantC_at {sb : ByteArray} {n : Nat} (h : sb.size = n + 1) : wantC sb.data.toList = (sb[n]'(by omega) != 58) := by
  have hn : n < sb.size := by omega
  have hl : n < sb.data.toList.length := by simpa using hn
  have e : sb.data.toList = sb.data.toList.take n ++ [sb[n]] := by
    have h2 : sb.data.toList.length = n + 1 := h
    have h3 := List.take_append_drop n sb.data.toList
    rw [List.drop_eq_getElem_cons hl, List.drop_of_length_le (by omega)] at h3
    exact h3.symm
  exact wantC_last e
set_option maxRecDepth 100000 in
set_option maxHeartbeats 2000000 in
theorem rput6_any (a : Nat) (w : World) : Calls Tryz.prog 8 #[A a] w (Gives (St (put6L a)) w) := by
  have GR := hide (fun W => rgroups_any a W)
  have F0 := Rf.two_new w a 24
  have B0 := below_alloc w (.cells #[.int .u64 (hi a : Nat), .int .u64 (lo a : Nat)] 24)
  have GL := hide (grpA_lt a)
  have HX := hide (fun n hn W => rhexg_any n hn W)
  obtain ⟨y0, y1, _⟩ := id F0
  go_enter Tryz.func8, Tryz.ntmps8
  go_wp2_with fail
  refine (GR.out _).mono ?_
  rintro e w1 ⟨rfl, hb1⟩
  have B1 := chain B0 hb1
  have H1 : HP6 w a w1.heap.size (w1.alloc (.cells (cells8 (grpA a)) 58)) := ⟨B1.alloc B1.size _, B1.size, rowU_new w1 (grpA a) _⟩
  clear y0 y1 F0 B0 hb1 GR B1
  unfold V8
  go_wp2_with fail
  generalize w1.heap.size = g3 at *
  go_loopw [4, 5, 6] (fun b f i wr => ∃ k : Nat, k ≤ 8 ∧ i = .int .i64 (k : Int) ∧ b = .int .i64 ((bestS (grpA a) k).1 : Int) ∧ f = .int .i64 (bestS (grpA a) k).2 ∧ HP6 w a g3 wr) (fun _ _ i _ => 8 - (intOf i).toNat)
  case atStart => exact ⟨0, by omega, rfl, rfl, rfl, H1⟩
  case round =>
    clear H1
    obtain ⟨k, hk, rfl, rfl, rfl, H⟩ := hrel
    by_cases hlt : k < 8
    · have h8 : (k : Int) < 8 := by omega
      go_wp2_with fail
      go_loopw [7] (fun n wr => ∃ m : Nat, m + k ≤ 8 ∧ n = .int .i64 (m : Int) ∧ Hid (runR (grpA a) (8 - k) k = m + runR (grpA a) (8 - k - m) (k + m)) ∧ HP6 w a g3 wr) (fun n _ => 8 - (intOf n).toNat)
      case atStart => exact ⟨0, by omega, rfl, hide (by rw [Nat.zero_add]; rfl), H⟩
      case round =>
        clear H
        obtain ⟨m, hm, rfl, E, H⟩ := hrel
        obtain ⟨km, hkm⟩ : ∃ km, km = k + m := ⟨_, rfl⟩
        have D1 : (k : Int) + (m : Int) = (km : Int) := by omega
        have LG := H.2.2.1
        by_cases hk8 : km < 8
        · have hk8' : (km : Int) < 8 := by omega
          have C := (H.2.2.2 km hk8).1
          by_cases hx : grpA a km = 0
          · have E2 := hide (show runR (grpA a) (8 - k) k = (m + 1) + runR (grpA a) (8 - k - (m + 1)) (k + (m + 1)) by
              have := run_more (g := grpA a) (k := 8 - k - (m + 1)) (j := k + m) (by rw [← hkm]; exact hx)
              rw [Nat.add_assoc] at this
              rw [E.out, show 8 - k - m = 8 - k - (m + 1) + 1 by omega, this]; omega)
            have hm2 := hide (show m + 1 + k ≤ 8 by omega)
            rw [hx] at C
            clear hx hkm E
            go_wp2
            go_roundw
            case rel => exact ⟨m + 1, hm2.out, by go_num, E2, H⟩
            case measure => simp [intOf] <;> omega
          · have ER := hide (show runR (grpA a) (8 - k) k = m by
              rw [E.out, run_stop (Or.inr (by rw [← hkm]; exact hx))]; omega)
            have CX : ((grpA a km : Int) == 0) = false := by simp; omega
            generalize grpA a km = x at *
            clear hx hkm E
            have NB := hide (show bestS (grpA a) (k + 1) = if 2 ≤ m ∧ (bestS (grpA a) k).1 < m then (m, (k : Int)) else bestS (grpA a) k by rw [← ER.out]; rfl)
            generalize bestS (grpA a) k = bp at *
            obtain ⟨bb, ff⟩ := bp
            by_cases c2 : 2 ≤ m
            · by_cases c3 : bb < m
              · have NC := hide (show bestS (grpA a) (k + 1) = (m, (k : Int)) by rw [NB.out, if_pos ⟨c2, c3⟩])
                have d2 : (2 : Int) ≤ (m : Int) := by omega
                have d3 : (bb : Int) < (m : Int) := by omega
                clear c2 c3 NB ER
                go_wp2
                go_roundw
                case rel => exact ⟨k + 1, by omega, by go_num, by rw [NC.out], by rw [NC.out], H⟩
                case measure => simp [intOf] <;> omega
              · have NC := hide (show bestS (grpA a) (k + 1) = (bb, ff) by rw [NB.out, if_neg (fun h => c3 h.2)])
                have d2 : (2 : Int) ≤ (m : Int) := by omega
                have d3 : ¬ (bb : Int) < (m : Int) := by omega
                clear c2 c3 NB ER
                go_wp2
                go_roundw
                case rel => exact ⟨k + 1, by omega, by go_num, by rw [NC.out], by rw [NC.out], H⟩
                case measure => simp [intOf] <;> omega
            · have NC := hide (show bestS (grpA a) (k + 1) = (bb, ff) by rw [NB.out, if_neg (fun h => c2 h.1)])
              have d2 : ¬ (2 : Int) ≤ (m : Int) := by omega
              clear c2 NB ER
              go_wp2
              go_roundw
              case rel => exact ⟨k + 1, by omega, by go_num, by rw [NC.out], by rw [NC.out], H⟩
              case measure => simp [intOf] <;> omega
        · have hk8' : ¬ (km : Int) < 8 := by omega
          have ER := hide (show runR (grpA a) (8 - k) k = m by
            rw [E.out, run_stop (Or.inl (by omega))]; omega)
          clear hkm E
          have NB := hide (show bestS (grpA a) (k + 1) = if 2 ≤ m ∧ (bestS (grpA a) k).1 < m then (m, (k : Int)) else bestS (grpA a) k by rw [← ER.out]; rfl)
          generalize bestS (grpA a) k = bp at *
          obtain ⟨bb, ff⟩ := bp
          by_cases c2 : 2 ≤ m
          · by_cases c3 : bb < m
            · have NC := hide (show bestS (grpA a) (k + 1) = (m, (k : Int)) by rw [NB.out, if_pos ⟨c2, c3⟩])
              have d2 : (2 : Int) ≤ (m : Int) := by omega
              have d3 : (bb : Int) < (m : Int) := by omega
              clear c2 c3 NB ER
              go_wp2
              go_roundw
              case rel => exact ⟨k + 1, by omega, by go_num, by rw [NC.out], by rw [NC.out], H⟩
              case measure => simp [intOf] <;> omega
            · have NC := hide (show bestS (grpA a) (k + 1) = (bb, ff) by rw [NB.out, if_neg (fun h => c3 h.2)])
              have d2 : (2 : Int) ≤ (m : Int) := by omega
              have d3 : ¬ (bb : Int) < (m : Int) := by omega
              clear c2 c3 NB ER
              go_wp2
              go_roundw
              case rel => exact ⟨k + 1, by omega, by go_num, by rw [NC.out], by rw [NC.out], H⟩
              case measure => simp [intOf] <;> omega
          · have NC := hide (show bestS (grpA a) (k + 1) = (bb, ff) by rw [NB.out, if_neg (fun h => c2 h.1)])
            have d2 : ¬ (2 : Int) ≤ (m : Int) := by omega
            clear c2 NB ER
            go_wp2
            go_roundw
            case rel => exact ⟨k + 1, by omega, by go_num, by rw [NC.out], by rw [NC.out], H⟩
            case measure => simp [intOf] <;> omega
    · have h8 : ¬ (k : Int) < 8 := by omega
      have BG := best_gap (grpA a)
      have GO := gap_order (grpA a)
      have ek : k = 8 := by omega
      obtain ⟨F, hF⟩ : ∃ F, F = (gapS (grpA a) 8).1 := ⟨_, rfl⟩
      obtain ⟨T0, hT⟩ : ∃ T0, T0 = (gapS (grpA a) 8).2.1 := ⟨_, rfl⟩
      have PL : put6L a = if T0 - F < 2 then putG (rowA (grpA a) 0 8) else putG (rowA (grpA a) 0 F) ++ [58, 58] ++ putG (rowA (grpA a) T0 (8 - T0)) := by rw [hF, hT]; rfl
      unfold agree at BG
      rw [← hF, ← hT] at BG GO
      obtain ⟨BB, FR, T, HB, HG, P6⟩ : ∃ (BB : Nat) (FR : Int) (T : Nat), bestS (grpA a) 8 = (BB, FR) ∧ ((T = 0 ∧ FR = -1) ∨ (F < T ∧ T ≤ 8 ∧ FR = (F : Int) ∧ BB = T - F)) ∧ preS (grpA a) F T 8 = put6L a := by
        by_cases hg : T0 - F < 2
        · rw [if_pos hg] at BG PL
          exact ⟨0, -1, 0, BG, Or.inl ⟨rfl, rfl⟩, by rw [PL]; unfold preS; rw [if_pos (Or.inl rfl)]⟩
        · rw [if_neg hg] at BG PL
          exact ⟨T0 - F, F, T0, BG, Or.inr ⟨by omega, GO.2, rfl, rfl⟩, by rw [PL]; unfold preS; rw [if_neg (by omega)]⟩
      rw [← ek] at HB
      rw [HB]
      dsimp only
      have P6 := hide P6
      have HG := hide HG
      clear ek hF hT PL BG GO HB hlt hk
      go_wp2_with fail
      go_loopw [8, 9] (fun s i wr => ∃ (j : Nat) (sb : ByteArray), j ≤ 8 ∧ i = .int .i64 (j : Int) ∧ s = .string sb ∧ Hid (sb.data.toList = preS (grpA a) F T j) ∧ Hid (T = 0 ∨ j ≤ F ∨ T ≤ j) ∧ HP6 w a g3 wr) (fun _ i _ => 8 - (intOf i).toNat)
      case atStart => exact ⟨0, ⟨#[]⟩, by omega, rfl, rfl, hide (by unfold preS; rw [if_pos (Or.inr (Nat.zero_le _))]; rfl), hide (Or.inr (Or.inl (Nat.zero_le _))), H⟩
      case round =>
        clear H
        obtain ⟨j, sb, hj, rfl, rfl, ES, EJ, H⟩ := hrel
        by_cases hlt : j < 8
        · have j8 : (j : Int) < 8 := by omega
          have SL : sb.size ≤ 100 := by
            have := preS_len a F T j hj
            rw [← ES.out] at this
            exact this
          have LG := H.2.2.1
          by_cases hfr : (j : Int) = FR
          · obtain ⟨f1, f2, f3, f4⟩ := HG.out.resolve_left (fun h => by omega)
            have N1 : ¬ 9223372036854775807 < sb.size + 2 := by omega
            have jF : j = F := by omega
            have E2 := hide (show (sb ++ (⟨#[58, 58]⟩ : ByteArray)).data.toList = preS (grpA a) F T T by
              have e := ES.out
              rw [jF] at e
              rw [preS_gap f1, ← e]; simp [ByteArray.data_append])
            have EQ : (j : Int) == FR := by simpa using hfr
            have BT : (j : Int) + (BB : Int) - 1 = (T : Int) - 1 := by omega
            have BW : IntKind.i64.wrap ((T : Int) - 1) = (T : Int) - 1 := IntWalk.i64_in _ ⟨by omega, by omega⟩
            have JM := hide (show j < T by omega)
            have TL := hide f2
            clear f1 f2 f3 f4 jF hfr
            go_wp2
            exact ⟨⟨T, _, TL.out, rfl, rfl, E2, hide (Or.inr (Or.inr (Nat.le_refl _))), H⟩, by simp only [intOf]; have := JM.out; have := TL.out; omega⟩
          · have EQ : ((j : Int) == FR) = false := by simpa using hfr
            have C := (H.2.2.2 j hlt).1
            have GLj := GL.out j
            have PN := hide (preS_next (g := grpA a) (F := F) (T := T) (i := j) (by have := HG.out; omega) (by have := HG.out; have := EJ.out; omega))
            have EJ2 := hide (show T = 0 ∨ j + 1 ≤ F ∨ T ≤ j + 1 by have := HG.out; have := EJ.out; omega)
            have HJ := hide (fun W => HX.out (grpA a j) (by omega) W)
            have HLn := hide (show (hexN (grpA a j)).length ≤ 65537 by have := hexN_lenU (grpA a j); omega)
            generalize grpA a j = x at *
            have N2 : ¬ 9223372036854775807 < sb.size + 1 := by omega
            have N3 : ¬ 9223372036854775807 < sb.size + 1 + (hexN x).length := by have := HLn.out; omega
            have N4 : ¬ 9223372036854775807 < sb.size + (hexN x).length := by have := HLn.out; omega
            by_cases hs : sb.size = 0
            · have L0 : ¬ (0 : Int) < (sb.size : Int) := by omega
              have WC : wantC sb.data.toList = false := by
                have : sb.data.toList = [] := List.length_eq_zero_iff.1 hs
                rw [this]; rfl
              clear hs
              have E2 := hide (show (sb ++ (⟨(hexN x).toArray⟩ : ByteArray)).data.toList = preS (grpA a) F T (j + 1) by
                rw [PN.out, ← ES.out, WC]; simp [ByteArray.data_append])
              clear WC PN
              go_wp2_with fail
              refine (HJ.out _).mono ?_
              rintro e w2 ⟨rfl, hb2⟩
              have H2 := H.step hb2
              clear H hb2 C
              go_wp2
              go_roundw
              case rel => exact ⟨j + 1, _, by omega, by go_num, rfl, E2, EJ2, H2⟩
              case measure => simp [intOf] <;> omega
            · obtain ⟨n, hn⟩ : ∃ n, sb.size = n + 1 := ⟨sb.size - 1, by omega⟩
              have L0 : (0 : Int) < (sb.size : Int) := by omega
              have D : (sb.size : Int) - 1 = (n : Int) := by omega
              have hn2 : n < sb.size := by omega
              have WCn := wantC_at hn
              by_cases hc : sb[n] = 58
              · have WC : wantC sb.data.toList = false := by rw [WCn]; simp [hc]
                have BC : ((sb[n].toNat : Int) != 58) = false := by rw [hc]; rfl
                clear WCn hc hs hn
                have E2 := hide (show (sb ++ (⟨(hexN x).toArray⟩ : ByteArray)).data.toList = preS (grpA a) F T (j + 1) by
                  rw [PN.out, ← ES.out, WC]; simp [ByteArray.data_append])
                clear WC PN
                go_wp2_with fail
                refine (HJ.out _).mono ?_
                rintro e w2 ⟨rfl, hb2⟩
                have H2 := H.step hb2
                clear H hb2 C
                go_wp2
                go_roundw
                case rel => exact ⟨j + 1, _, by omega, by go_num, rfl, E2, EJ2, H2⟩
                case measure => simp [intOf] <;> omega
              · have WC : wantC sb.data.toList = true := by rw [WCn]; simpa using hc
                have BC : ((sb[n].toNat : Int) != 58) = true := by
                  have h1 : sb[n].toNat ≠ 58 := fun h => hc (UInt8.toNat_inj.1 (by rw [h]; rfl))
                  have h2 : ¬ (sb[n].toNat : Int) = 58 := by omega
                  simpa using h2
                clear WCn hc hs hn
                have E2 := hide (show (sb ++ (⟨#[58]⟩ : ByteArray) ++ ⟨(hexN x).toArray⟩).data.toList = preS (grpA a) F T (j + 1) by
                  rw [PN.out, ← ES.out, WC]; simp [ByteArray.data_append])
                clear WC PN
                go_wp2_with fail
                refine (HJ.out _).mono ?_
                rintro e w2 ⟨rfl, hb2⟩
                have H2 := H.step hb2
                clear H hb2 C
                go_wp2
                go_roundw
                case rel => exact ⟨j + 1, _, by omega, by go_num, rfl, E2, EJ2, H2⟩
                case measure => simp [intOf] <;> omega
        · have j8 : ¬ (j : Int) < 8 := by omega
          have ej : j = 8 := by omega
          have EV := hide (show Value.string sb = St (put6L a) by
            have h := ES.out
            rw [ej, P6.out] at h
            exact congrArg Value.string (by rw [← h]))
          clear ej hlt hj
          go_wp2
          go_ret
          exact ⟨by rw [← EV.out]; rfl, H.1⟩
end Go.Proofs.YtmapcllmiomelaaGreatDoor
