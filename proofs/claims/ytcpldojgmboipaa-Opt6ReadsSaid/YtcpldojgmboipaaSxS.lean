/-
  The contract of Sound. Conditions: a row takes at most 2^47 bytes; an address is one of 128 bits.
-/
import Derived.Test.YtcpldojgmboipaaSxK
namespace Go.Proofs.Ytcpldojgmboipaa
open Go.RowKit Go.Joins

theorem enters_s1 (args : Array Value) (w : World) : (callFunc 49 args).run Try.prog w = .ok (.enter 49 args) w := by kernel_rfl
set_option maxRecDepth 100000 in
theorem sound1_any (a : IA) (v : Value) (x : In) (hx : Fits x.addr) (b : Nat) (w : World) (hb : Bx b 37 (cellsA a v) w) :
    Calls Try.prog 49 #[IV x, .pointer (some ⟨b, 0, none⟩)] w (Gives (.bool (!soundI a.kind x)) w) := by
  have S := hide (fun W => soundInner_any a.kind x hx W)
  have B1 := hide (bx_new w 74 (cellsV x).toArray)
  have D1 := hide (below_alloc w (.cells (cellsV x).toArray 74))
  have y0 := (hb.step D1.out).cell 0
  have L1 := hb.lt
  simp at y0
  have z : ∀ i, i < 6 → (w.alloc (.cells (cellsV x).toArray 74)).cell? ⟨w.heap.size, i, none⟩ = (cellsV x).toArray[i]? := fun i _ => B1.out.cell i
  have z0 := z 0 (by omega)
  have z1 := z 1 (by omega)
  have z2 := z 2 (by omega)
  have z3 := z 3 (by omega)
  have z4 := z 4 (by omega)
  have z5 := z 5 (by omega)
  simp at z0 z1 z2 z3 z4 z5
  generalize soundI a.kind x = r at *
  clear z hb hx
  go_enter Try.func49, Try.ntmps49
  go_wp2_with fail
  refine (S.out _).mono ?_
  rintro e w2 ⟨rfl, hb2⟩
  go_wp2
  go_ret
  exact ⟨rfl, D1.out.trans (hb2.mono D1.out.size)⟩
theorem any_not (k : Int) (l : List In) : l.any (fun x => !soundI k x) = !l.all (soundI k) := by
  induction l with
  | nil => rfl
  | cons x l ih => rw [List.any_cons, List.all_cons, ih, Bool.not_and]
set_option maxRecDepth 100000 in
set_option maxHeartbeats 4000000 in
theorem asound_any (a : IA) (hf : FitA a) {v : Value} (hl : a.has.length * 40 ≤ 140737488355328) (w : World) (hv : LstI v a.has w) :
    Calls Try.prog 21 #[AV a v] w (Gives (.bool (soundA a)) w) := by
  have hmf : ∀ (fn : Fn) (first cap : Array Value) (w : World), (Instr.makeFunc fn first cap).run Try.prog w = .ok (.func fn first cap) w := fun _ _ _ _ => rfl
  have B0 := hide (bx_new w 37 (cellsA a v))
  have D0 := hide (below_alloc w (.cells (cellsA a v) 37))
  have CO := hide (fun W => codeOf_any a.kind W)
  have SC := hide (fun W => soundCode_any a.code W)
  have CF := hide (fun W (H : Below w.heap.size w W) (hb : Bx w.heap.size 37 (cellsA a v) W) => contains_any 49 #[.pointer (some ⟨w.heap.size, 0, none⟩)] (fun x => !soundI a.kind x) hl W (hv.step H) enters_s1 (fun W2 h2 x hx => sound1_any a v x (hf x hx) w.heap.size W2 (hb.step h2)))
  rw [any_not] at CF
  have SA := hide (show soundA a = (kindO a.kind && (decide (a.has.length ≤ 8) && (codeO a.code && (zeroT a && a.has.all (soundI a.kind))))) from rfl)
  obtain ⟨pv, cv, rfl⟩ := lstI_len hv
  generalize soundA a = r at *
  generalize codeN a.kind = cn at *
  clear hv hf
  cases hk : kindO a.kind with
  | false =>
    rw [hk] at CO SA
    have Z := hide (show r = false from SA.out)
    clear SA SC CF hk
    go_enter Try.func21, Try.ntmps21
    go_wp2_with fail
    refine (CO.out _).mono ?_
    rintro e w1 ⟨rfl, rfl⟩
    go_wp2
    go_ret
    exact ⟨congrArg Ending.returned (bool_eq Z.out.symm), D0.out⟩
  | true =>
    rw [hk] at CO SA
    clear hk
    by_cases h8 : a.has.length ≤ 8
    · have h8' : ¬ (8 : Int) < (a.has.length : Int) := by omega
      rw [decide_eq_true h8] at SA
      cases hc : codeO a.code with
      | false =>
        rw [hc] at SC SA
        have Z := hide (show r = false from SA.out)
        clear SA CF hc h8
        go_enter Try.func21, Try.ntmps21
        go_wp2_with fail
        refine (CO.out _).mono ?_
        rintro e w1 ⟨rfl, rfl⟩
        go_wp2_with fail
        refine (SC.out _).mono ?_
        rintro e w2 ⟨rfl, hb2⟩
        go_wp2
        go_ret
        exact ⟨congrArg Ending.returned (bool_eq Z.out.symm), D0.out.trans (hb2.mono D0.out.size)⟩
      | true =>
        rw [hc] at SC SA
        clear hc h8
        have ZZ := hide (show r = (zeroT a && a.has.all (soundI a.kind)) from SA.out)
        clear SA
        have G := hide (fun W (H : Bx w.heap.size 37 (cellsA a (.slice pv a.has.length cv)) W) => (show W.cell? ⟨w.heap.size, 0, none⟩ = some (.int .i64 a.kind) ∧ W.cell? ⟨w.heap.size, 2, none⟩ = some (.int .u32 (a.t1.toNat : Int)) ∧ W.cell? ⟨w.heap.size, 3, none⟩ = some (.int .u32 (a.t2.toNat : Int)) ∧ W.cell? ⟨w.heap.size, 4, none⟩ = some (.slice pv a.has.length cv) from ⟨H.cell 0, H.cell 2, H.cell 3, H.cell 4⟩))
        by_cases h3 : a.kind = 3
        · have e3 : (a.kind == 3) = true := by simpa using h3
          by_cases h1 : a.t1.toNat = 0
          · have e1 : ((a.t1.toNat : Int) != 0) = false := by simpa using (show (a.t1.toNat : Int) = 0 by omega)
            by_cases h2 : a.t2.toNat = 0
            · have e2 : ((a.t2.toNat : Int) != 0) = false := by simpa using (show (a.t2.toNat : Int) = 0 by omega)
              have Z := hide (show r = a.has.all (soundI a.kind) by rw [ZZ.out, show zeroT a = true by unfold zeroT; simp [h1, h2]]; rfl)
              clear ZZ h1 h2 h3
              go_enter Try.func21, Try.ntmps21
              go_wp2_with fail
              refine (CO.out _).mono ?_
              rintro e w1 ⟨rfl, rfl⟩
              go_wp2_with fail
              refine (SC.out _).mono ?_
              rintro e w2 ⟨rfl, hb2⟩
              have B2 := hide (B0.out.step hb2)
              have D2 := hide (D0.out.trans (hb2.mono D0.out.size))
              obtain ⟨y0, y2, y3, y4⟩ := G.out _ B2.out
              clear hb2 B0 D0
              go_wp2_with fail
              refine (CF.out _ D2.out B2.out).mono ?_
              rintro e w3 ⟨rfl, hb3⟩
              have D3 := hide (D2.out.trans (hb3.mono D2.out.size))
              clear hb3
              go_wp2
              go_ret
              exact ⟨congrArg Ending.returned (bool_eq Z.out.symm), D3.out⟩
            · have e2 : ((a.t2.toNat : Int) != 0) = true := by simpa using (show ¬ (a.t2.toNat : Int) = 0 by omega)
              have Z := hide (show r = false by rw [ZZ.out, show zeroT a = false by unfold zeroT; simp [h3, h1, h2]]; rfl)
              clear ZZ h1 h2 h3 CF
              go_enter Try.func21, Try.ntmps21
              go_wp2_with fail
              refine (CO.out _).mono ?_
              rintro e w1 ⟨rfl, rfl⟩
              go_wp2_with fail
              refine (SC.out _).mono ?_
              rintro e w2 ⟨rfl, hb2⟩
              have B2 := hide (B0.out.step hb2)
              have D2 := hide (D0.out.trans (hb2.mono D0.out.size))
              obtain ⟨y0, y2, y3, y4⟩ := G.out _ B2.out
              clear hb2 B0 D0
              go_wp2
              go_ret
              exact ⟨congrArg Ending.returned (bool_eq Z.out.symm), D2.out⟩
          · have e1 : ((a.t1.toNat : Int) != 0) = true := by simpa using (show ¬ (a.t1.toNat : Int) = 0 by omega)
            have Z := hide (show r = false by rw [ZZ.out, show zeroT a = false by unfold zeroT; simp [h3, h1]]; rfl)
            clear ZZ h1 h3 CF
            go_enter Try.func21, Try.ntmps21
            go_wp2_with fail
            refine (CO.out _).mono ?_
            rintro e w1 ⟨rfl, rfl⟩
            go_wp2_with fail
            refine (SC.out _).mono ?_
            rintro e w2 ⟨rfl, hb2⟩
            have B2 := hide (B0.out.step hb2)
            have D2 := hide (D0.out.trans (hb2.mono D0.out.size))
            obtain ⟨y0, y2, y3, y4⟩ := G.out _ B2.out
            clear hb2 B0 D0
            go_wp2
            go_ret
            exact ⟨congrArg Ending.returned (bool_eq Z.out.symm), D2.out⟩
        · have e3 : (a.kind == 3) = false := by simpa using h3
          have Z := hide (show r = a.has.all (soundI a.kind) by rw [ZZ.out, show zeroT a = true by unfold zeroT; simp [h3]]; rfl)
          clear ZZ h3
          go_enter Try.func21, Try.ntmps21
          go_wp2_with fail
          refine (CO.out _).mono ?_
          rintro e w1 ⟨rfl, rfl⟩
          go_wp2_with fail
          refine (SC.out _).mono ?_
          rintro e w2 ⟨rfl, hb2⟩
          have B2 := hide (B0.out.step hb2)
          have D2 := hide (D0.out.trans (hb2.mono D0.out.size))
          obtain ⟨y0, y2, y3, y4⟩ := G.out _ B2.out
          clear hb2 B0 D0
          go_wp2_with fail
          refine (CF.out _ D2.out B2.out).mono ?_
          rintro e w3 ⟨rfl, hb3⟩
          have D3 := hide (D2.out.trans (hb3.mono D2.out.size))
          clear hb3
          go_wp2
          go_ret
          exact ⟨congrArg Ending.returned (bool_eq Z.out.symm), D3.out⟩
    · have h8' : (8 : Int) < (a.has.length : Int) := by omega
      rw [decide_eq_false h8] at SA
      have Z := hide (show r = false from SA.out)
      clear SA SC CF h8
      go_enter Try.func21, Try.ntmps21
      go_wp2_with fail
      refine (CO.out _).mono ?_
      rintro e w1 ⟨rfl, rfl⟩
      go_wp2
      go_ret
      exact ⟨congrArg Ending.returned (bool_eq Z.out.symm), D0.out⟩
end Go.Proofs.Ytcpldojgmboipaa
