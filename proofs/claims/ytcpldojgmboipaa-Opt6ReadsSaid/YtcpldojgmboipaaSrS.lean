/-
  The document's own Sound. Condition: a row takes at most 2^47 bytes.
-/
import Derived.Test.YtcpldojgmboipaaSrA
import Derived.Test.YtcpldojgmboipaaSxU
import Derived.Deep.DeepCutAuto
namespace Go.Proofs.Ytcpldojgmboipaa
open Go.RowKit Go.Joins

def topA (a : IA) : Bool := kindO a.kind && (decide (a.has.length ≤ 8) && (codeO a.code && zeroT a))
theorem sound_top (a : IA) : soundA a = (topA a && a.has.all (soundI a.kind)) := by unfold soundA topA; simp only [Bool.and_assoc]
/-- the memory of Sound: its box -/
def RSw (w : World) (a : IA) (v : Value) (W : World) : Prop := Below w.heap.size w W ∧ Bx w.heap.size 37 (cellsA a v) W
theorem RSw.step {w : World} {a : IA} {v : Value} {W W2 : World} (h : RSw w a v W) (hb : Below W.heap.size W W2) : RSw w a v W2 := ⟨chain h.1 hb, h.2.step hb⟩
theorem all_take {P : In → Bool} {l : List In} {k : Nat} {x : In} (hx : l[k]? = some x) (h : (l.take k).all P = true) (hp : P x = true) : (l.take (k + 1)).all P = true := by
  rw [List.take_add_one, hx, List.all_append, h]
  simp [hp]
theorem all_bad {P : In → Bool} {l : List In} {k : Nat} {x : In} (hx : l[k]? = some x) (hp : P x = false) : l.all P = false := by
  rw [List.all_eq_false]
  exact ⟨x, List.mem_of_getElem? hx, by simp [hp]⟩
set_option maxRecDepth 100000 in
set_option maxHeartbeats 4000000 in
theorem rasound_any (a : IA) (hf : FitA a) {v : Value} (hl : a.has.length * 40 ≤ 140737488355328) (w : World) (hv : LstI v a.has w) :
    Calls Try.prog 22 #[AV a v] w (Gives (.bool (soundA a)) w) := by
  have H0 := hide (show RSw w a v _ from ⟨below_alloc w (.cells (cellsA a v) 37), bx_new w 37 (cellsA a v)⟩)
  have SC := hide (fun W => rstatus_any a.code W)
  have HV := hide (fun W (H : Below w.heap.size w W) => hv.step H)
  have SA := hide (sound_top a)
  have TA := hide (show topA a = (kindO a.kind && (decide (a.has.length ≤ 8) && (codeO a.code && zeroT a))) from rfl)
  have hcap : ∃ p c, v = .slice p a.has.length c ∧ a.has.length ≤ c := by
    obtain ⟨p, c, rfl⟩ := lstI_len hv
    exact ⟨p, c, rfl, (lstI_cap hv).2.1⟩
  obtain ⟨pv, cv, rfl, hcl⟩ := hcap
  have HF := hide hf
  clear hv hf
  generalize soundA a = r at *
  generalize topA a = ta at *
  go_enter Try.func22, Try.ntmps22
  go_upto_region 1 with fail
  generalize w.alloc (.cells (cellsA a (.slice pv a.has.length cv)) 37) = w1 at *
  go_cut [39] (fun s39 wx => s39 = .bool (!ta) ∧ RSw w a (.slice pv a.has.length cv) wx)
  case first =>
    obtain ⟨y0, y1, y2, y3, y4, y5⟩ := ia_cells H0.out.2
    by_cases k1 : a.kind < 2
    · have Z := hide (show ta = false by rw [TA.out, show kindO a.kind = false by rw [Bool.eq_false_iff, Ne, kindO_iff]; omega]; rfl)
      clear TA SA
      go_wp2
      go_meet
      exact ⟨by rw [Z.out]; rfl, H0.out⟩
    by_cases k2 : 4 < a.kind
    · have Z := hide (show ta = false by rw [TA.out, show kindO a.kind = false by rw [Bool.eq_false_iff, Ne, kindO_iff]; omega]; rfl)
      clear TA SA
      go_wp2
      go_meet
      exact ⟨by rw [Z.out]; rfl, H0.out⟩
    have KO : kindO a.kind = true := kindO_iff.2 (by omega)
    by_cases hk : a.kind = 3
    · have ek : (a.kind == 3) = true := by simpa using hk
      by_cases h1 : a.t1.toNat = 0
      · have e1 : ((a.t1.toNat : Int) != 0) = false := by simpa using h1
        by_cases h2 : a.t2.toNat = 0
        · have e2 : ((a.t2.toNat : Int) != 0) = false := by simpa using h2
          have ZT : zeroT a = true := by unfold zeroT; simp [h1, h2]
          clear h1 h2 hk
          by_cases h8 : a.has.length ≤ 8
          · have h8' : ¬ (8 : Int) < (a.has.length : Int) := by omega
            have Z := hide (show ta = codeO a.code by rw [TA.out, KO, ZT, decide_eq_true h8]; simp)
            clear TA KO ZT h8 SA
            go_wp2_with fail
            refine (SC.out _).mono ?_
            rintro e w2 ⟨rfl, hb2⟩
            have H2 := hide (H0.out.step hb2)
            go_wp2
            go_meet
            exact ⟨by rw [Z.out], H2.out⟩
          · have h8' : (8 : Int) < (a.has.length : Int) := by omega
            have Z := hide (show ta = false by rw [TA.out, KO, ZT, decide_eq_false h8]; simp)
            clear TA KO ZT h8 SA
            go_wp2
            go_meet
            exact ⟨by rw [Z.out]; rfl, H0.out⟩
        · have e2 : ((a.t2.toNat : Int) != 0) = true := by simpa using h2
          have Z := hide (show ta = false by rw [TA.out, show zeroT a = false by unfold zeroT; simp [hk, h2]]; simp)
          clear h1 h2 hk KO
          clear TA SA
          go_wp2
          go_meet
          exact ⟨by rw [Z.out]; rfl, H0.out⟩
      · have e1 : ((a.t1.toNat : Int) != 0) = true := by simpa using h1
        have Z := hide (show ta = false by rw [TA.out, show zeroT a = false by unfold zeroT; simp [hk, h1]]; simp)
        clear h1 hk KO
        clear TA SA
        go_wp2
        go_meet
        exact ⟨by rw [Z.out]; rfl, H0.out⟩
    · have ek : (a.kind == 3) = false := by simpa using hk
      have ZT : zeroT a = true := by unfold zeroT; simp [hk]
      clear hk
      by_cases h8 : a.has.length ≤ 8
      · have h8' : ¬ (8 : Int) < (a.has.length : Int) := by omega
        have Z := hide (show ta = codeO a.code by rw [TA.out, KO, ZT, decide_eq_true h8]; simp)
        clear TA KO ZT h8 SA
        go_wp2_with fail
        refine (SC.out _).mono ?_
        rintro e w2 ⟨rfl, hb2⟩
        have H2 := hide (H0.out.step hb2)
        go_wp2
        go_meet
        exact ⟨by rw [Z.out], H2.out⟩
      · have h8' : (8 : Int) < (a.has.length : Int) := by omega
        have Z := hide (show ta = false by rw [TA.out, KO, ZT, decide_eq_false h8]; simp)
        clear TA KO ZT h8 SA
        go_wp2
        go_meet
        exact ⟨by rw [Z.out]; rfl, H0.out⟩
  case rest =>
    obtain ⟨rfl, HC⟩ := hcut
    have HC0 := hide HC
    clear HC H0 SC TA
    cases ta with
    | false =>
      have Z := hide (show r = false from SA.out)
      clear SA
      go_wp2
      go_ret
      exact ⟨congrArg Ending.returned (bool_eq Z.out.symm), HC0.out.1⟩
    | true =>
      rw [Bool.true_and] at SA
      go_wp2_with fail
      go_loopw [3, 4] (fun vi _ wr => ∃ k : Nat, k ≤ a.has.length ∧ vi = .int .i64 (k : Nat) ∧ Hid ((a.has.take k).all (soundI a.kind) = true) ∧ Hid (RSw w a (.slice pv a.has.length cv) wr)) (fun vi _ _ => a.has.length - (intOf vi).toNat)
      case atStart => exact ⟨0, Nat.zero_le _, rfl, hide rfl, HC0⟩
      case round =>
        obtain ⟨k, hk, rfl, HA, HP⟩ := hrel
        clear HC0
        have y4 := (ia_cells HP.out.2).2.2.2.2.1
        by_cases hlt : k < a.has.length
        · obtain ⟨x, hx⟩ := getI_some hlt
          obtain ⟨b, o, rfl, _, hat⟩ := lstI_at (HV.out _ HP.out.1) hx
          obtain ⟨x1, x2, x3, x4, x5, x6⟩ := hat.cells
          have kc : k ≤ cv := by omega
          have CS := hide (fun W => rstatus_any x.code W)
          have PS := hide (fun W => rsound_any (HF.out x (List.mem_of_getElem? hx)) x.bits W)
          have SI := hide (show soundI a.kind x = (soundS x.addr x.bits && (decide (a.kind = 4) || decide (x.bits = 128)) && codeO x.code) from rfl)
          have HG := hide (fun h => all_take (P := soundI a.kind) hx HA.out h)
          have HN := hide (fun h => (SA.out.trans (all_bad (P := soundI a.kind) hx h)))
          generalize soundI a.kind x = si at *
          generalize soundS x.addr x.bits = ss at *
          generalize codeO x.code = cc at *
          have H2 := hide (HP.out.step (below_alloc wr (.cells (cellsV x).toArray 74)))
          have X2 := hide (bx_new wr 74 (cellsV x).toArray)
          clear hat hx HA HP SA
          have X2' : Bx wr.heap.size 74 #[.int .u64 (hi x.addr : Nat), .int .u64 (lo x.addr : Nat), .int .i64 x.bits, .int .u32 (x.pref.toNat : Int), .int .u32 (x.valid.toNat : Int), .int .i64 x.code] _ := X2.out
          go_upto_region 7 with fail
          clear y4 x1 x2 x3 x4 x5 x6
          generalize wr.alloc _ = w2 at *
          generalize wr.heap.size = bx at *
          have z0 := X2'.cell 0
          have z1 := X2'.cell 1
          have z2 := X2'.cell 2
          have z5 := X2'.cell 5
          simp at z0 z1 z2 z5
          go_wp2_with fail
          refine (CS.out _).mono ?_
          rintro e w3 ⟨rfl, hb3⟩
          have H3 := hide (H2.out.step hb3)
          have X3 := X2'.step hb3
          clear hb3 H2 X2 X2' z0 z1 z2 z5 CS
          cases cc with
          | false =>
            have Z := hide (show si = false by rw [SI.out, Bool.and_false])
            clear SI HG PS
            go_wp2
            go_ret
            exact ⟨congrArg Ending.returned (bool_eq (HN.out Z.out).symm), H3.out.1⟩
          | true =>
            rw [Bool.and_true] at SI
            have z0 := X3.cell 0
            have z1 := X3.cell 1
            have z2 := X3.cell 2
            simp at z0 z1 z2
            go_wp2_with fail
            refine (PS.out _).mono ?_
            rintro e w4 ⟨rfl, hb4⟩
            have H4 := hide (H3.out.step hb4)
            have X4 := X3.step hb4
            clear hb4 H3 X3 z0 z1 z2 PS
            cases ss with
            | false =>
              have Z := hide (show si = false by rw [SI.out, Bool.false_and])
              clear SI HG
              go_wp2
              go_ret
              exact ⟨congrArg Ending.returned (bool_eq (HN.out Z.out).symm), H4.out.1⟩
            | true =>
              rw [Bool.true_and] at SI
              have y0 := (ia_cells H4.out.2).1
              have z2 := X4.cell 2
              simp at z2
              by_cases g4 : a.kind = 4
              · have e4 : (a.kind != 4) = false := by simpa using g4
                have Z := hide (show si = true by rw [SI.out, decide_eq_true g4, Bool.true_or])
                clear SI g4 HN
                go_wp2
                go_roundw
                case rel => (repeat apply Exists.intro); exact ⟨⟨k + 1, hlt, by go_num, hide (HG.out Z.out), H4⟩, rfl⟩
                case measure => simp [intOf]; omega
              · have e4 : (a.kind != 4) = true := by simpa using g4
                by_cases g5 : x.bits = 128
                · have e5 : (x.bits != 128) = false := by simpa using g5
                  have Z := hide (show si = true by rw [SI.out, decide_eq_true g5, Bool.or_true])
                  clear SI g4 g5 HN
                  go_wp2
                  go_roundw
                  case rel => (repeat apply Exists.intro); exact ⟨⟨k + 1, hlt, by go_num, hide (HG.out Z.out), H4⟩, rfl⟩
                  case measure => simp [intOf]; omega
                · have e5 : (x.bits != 128) = true := by simpa using g5
                  have Z := hide (show si = false by rw [SI.out, decide_eq_false g4, decide_eq_false g5]; rfl)
                  clear SI g4 g5 HG
                  go_wp2
                  go_ret
                  exact ⟨congrArg Ending.returned (bool_eq (HN.out Z.out).symm), H4.out.1⟩
        · have : k = a.has.length := by omega
          subst this
          rw [List.take_length] at HA
          have Z := hide (show r = true from SA.out.trans HA.out)
          clear SA HA hlt
          go_wp2
          go_ret
          exact ⟨congrArg Ending.returned (bool_eq Z.out.symm), HP.out.1⟩
end Go.Proofs.Ytcpldojgmboipaa
