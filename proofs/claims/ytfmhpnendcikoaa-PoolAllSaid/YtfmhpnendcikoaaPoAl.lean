/-
  The walk of the law PoolAll: it returns true. Conditions: the words are words of 64 bits; a slice has at most 2^63 - 1 draws.
-/
import Derived.Test.YtfmhpnendcikoaaPoAm
import Derived.Deep.DeepCutAuto
import Derived.Deep.CutBlock
namespace Go.Proofs.Ytfmhpnendcikoaa
open Go.RowKit Go.Joins

/-- the free set and the box of its count -/
def HAl (w : World) (vf : Value) (F : List Rg) (g a : Nat) (W : World) : Prop := Below w.heap.size w W ∧ Lst vf F W ∧ Two g a W
theorem HAl.step {w : World} {vf : Value} {F : List Rg} {g a : Nat} {W w2 : World} (h : HAl w vf F g a W) (hb : Below W.heap.size W w2) : HAl w vf F g a w2 := ⟨chain h.1 hb, h.2.1.step hb, h.2.2.step hb⟩
/-- the taken ones and the box of what is left -/
def HBt (V : World) (left : Nat) (v : Value) (g : List Nat) (W : World) : Prop := Below V.heap.size V W ∧ Two V.heap.size left W ∧ OwnA W (V.heap.size + 1) v g
theorem HBt.step {V : World} {left : Nat} {v : Value} {g : List Nat} {W w2 : World} (h : HBt V left v g W) (hb : Below W.heap.size W w2) : HBt V left v g w2 := ⟨chain h.1 hb, h.2.1.step hb, own_keep h.2.2 hb⟩
theorem HBt.low {V : World} {left : Nat} {v : Value} {g : List Nat} {W : World} (h : HBt V left v g W) : V.heap.size + 1 ≤ W.heap.size := h.2.1.1
theorem two_base {G a : Nat} {W w2 : World} (h : Two G a W) (hb : Below (G + 1) W w2) : Two G a w2 := by
  have c : ∀ o, w2.cell? ⟨G, o, none⟩ = W.cell? ⟨G, o, none⟩ := fun o => hb.cell (p := ⟨G, o, none⟩) (Nat.lt_succ_self _)
  have f : ∀ o, w2.frozen? ⟨G, o, none⟩ = W.frozen? ⟨G, o, none⟩ := fun o => hb.frozen (p := ⟨G, o, none⟩) (Nat.lt_succ_self _)
  unfold Two at *
  rw [c, c, f, f]
  exact ⟨Nat.lt_of_lt_of_le h.1 hb.size, h.2⟩
theorem HBt.app {V : World} {left : Nat} {v v2 : Value} {g g2 : List Nat} {W w2 : World} (h : HBt V left v g W) (hb : Below (V.heap.size + 1) W w2) (ho : OwnA w2 (V.heap.size + 1) v2 g2) : HBt V left v2 g2 w2 := ⟨h.1.trans (hb.mono (Nat.le_succ _)), two_base h.2.1 hb, ho⟩
theorem HBt.put {V : World} {left : Nat} {v : Value} {g : List Nat} {W : World} (h : HBt V left v g W) (y : Nat) : HBt V y v g ((W.setCell ⟨V.heap.size, 0, none⟩ (.int .u64 (hi y : Nat))).setCell ⟨V.heap.size, 1, none⟩ (.int .u64 (lo y : Nat))) := by
  refine ⟨(h.1.setCell (Nat.le_refl _) _).setCell (Nat.le_refl _) _, h.2.1.put y, ?_⟩
  have hne : ∀ k, v.ownBlock = some k → some V.heap.size ≠ some k := fun k e c => by
    have := (h.2.2.lt k e).1
    have := Option.some.inj c
    omega
  exact own_grow (own_grow h.2.2 (grow_cell1 W V.heap.size 0 _) hne (Nat.le_refl _)) (grow_cell1 _ V.heap.size 1 _) hne (Nat.le_refl _)
theorem sinv_fits {F : List Rg} {g : List Nat} {i : Nat} {b : Bool} {left : Nat} (h : SInv F g i b left) : Fits left := by
  rw [h.2.2.1]
  unfold Fits
  exact Nat.mod_lt _ (by omega)
theorem words_pos2 {n : Nat} (h : n ≠ 0) : ((((hi n : Nat) : Int) == 0) = false ∧ ¬ hi n = 0) ∨ ((((hi n : Nat) : Int) == 0) = true ∧ (((lo n : Nat) : Int) == 0) = false ∧ ¬ lo n = 0) := by
  have := hi_lo n
  by_cases e : hi n = 0
  · refine Or.inr ⟨by rw [e]; rfl, by simp; omega, by omega⟩
  · exact Or.inl ⟨by simp; omega, e⟩
set_option maxRecDepth 100000 in
set_option maxHeartbeats 4000000 in
theorem all_any {vp vt : Value} {p : List Rg} {t : List Nat} {qd : Option Go.Addr} {cd : Nat} {dl : List Nat} (fp : FitL p) (ft : ∀ a ∈ t, Fits a) (fd : ∀ a ∈ dl, a < 18446744073709551616) (w : World) (hv : Lst vp p w) (hu : LstA vt t w)
    (hd : ∀ W, Below w.heap.size w W → ∀ (j x : Nat), dl[j]? = some x → ∃ b o, qd = some ⟨b, o, none⟩ ∧ W.cell? ⟨b, o + j, none⟩ = some (.int .u64 (x : Nat))) :
    Calls Try.prog 5 #[vp, vt, .slice qd dl.length cd] w (Gives (.bool true) w) := by
  have HV := hide (fun W (H : Below w.heap.size w W) => hv.step H)
  have HU := hide (fun W (H : Below w.heap.size w W) => hu.step H)
  have HD := hide hd
  have FD := hide fd
  obtain ⟨pp, pc, rfl⟩ := lst_len hv
  obtain ⟨q, c, rfl⟩ := lstA_len hu
  clear hv hu hd fd
  go_enter Try.func5, Try.ntmps5
  go_wp2_with fail
  refine (awake_any _).mono ?_
  rintro e w1 ⟨rfl, hb1⟩
  by_cases hp : 100 < p.length
  · have E : (100 : Int) < (p.length : Int) := by omega
    go_wp2
    go_ret
    exact ⟨rfl, hb1⟩
  by_cases ht : 100 < t.length
  · have E : (100 : Int) < (t.length : Int) := by omega
    go_wp2
    go_ret
    exact ⟨rfl, hb1⟩
  have BU := hide (fun W (H : Below w.heap.size w W) => build_any fp ft (by omega) (by omega) W (HV.out W H) (HU.out W H))
  cases ho : okL p with
  | false =>
    rw [show buildR p t = ([], 1) by unfold buildR; rw [ho]; rfl] at BU
    clear ho HU HV
    go_wp2_with fail
    refine (BU.out _ hb1).mono ?_
    rintro e w2 ⟨v2, rfl, hb2, O2⟩
    have HB := chain hb1 hb2
    clear BU O2 hb1 hb2
    go_wp2
    go_ret
    exact ⟨rfl, HB⟩
  | true =>
    obtain ⟨j1, j2, j3, _⟩ := jn_spec (okL_iff.1 ho) fp
    obtain ⟨s1, s2, s3, _⟩ := free_spec j1 j2 ft
    rw [show buildR p t = (freeS (jnL p) t, 0) by unfold buildR; rw [ho]; rfl] at BU
    have n1 : (freeS (jnL p) t).length ≤ 300 := by omega
    generalize freeS (jnL p) t = F at *
    clear ho HU HV fp ft j1 j2 j3 s3
    have SF := hide s1
    have FF := hide s2
    clear s1 s2
    go_wp2_with fail
    refine (BU.out _ hb1).mono ?_
    rintro e w2 ⟨vf, rfl, hb2, O2⟩
    obtain ⟨pf, cf, rfl⟩ := lst_len (own_lst O2)
    have B2 := chain hb1 hb2
    have L2 := own_lst O2
    clear BU O2 hb1 hb2
    have CO := hide (fun W v (H : Lst v F W) => count_any (v := v) FF.out (by omega) W H)
    have SI := hide (sinv_start SF.out FF.out)
    have CI := hide (fun (h : cntO F = false) => (fun (k : Nat) (hk : k < cntV F) (h64 : cntV F < 18446744073709551616) => pick_k SF.out FF.out h hk h64))
    generalize cntV F = m at *
    generalize cntO F = ob at *
    go_wp2_with fail
    refine (CO.out _ _ L2).mono ?_
    rintro e w3 ⟨rfl, hb3⟩
    have H4 : HAl w (.slice pf F.length cf) F w3.heap.size m (w3.alloc (.cells #[.int .u64 (hi m : Nat), .int .u64 (lo m : Nat)] 35)) :=
      ⟨chain (chain B2 hb3) (below_alloc _ _), (L2.step hb3).step (below_alloc _ _), two_new _ _ _⟩
    clear B2 L2 hb3 CO
    obtain ⟨_, z0, z1, _, _⟩ := id H4.2.2
    go_upto_block 0 with fail
    go_cut [10, 45, 47, 48, 49] (fun s10 _ _ _ _ wx => s10 = .bool ob ∧ HAl w (.slice pf F.length cf) F w3.heap.size m wx)
    case first =>
      go_wp2_with fail
      go_loopw [11] (fun i wr => ∃ k : Nat, k ≤ 200 ∧ i = .int .u64 (k : Nat) ∧ HAl w (.slice pf F.length cf) F w3.heap.size m wr) (fun i _ => 200 - (intOf i).toNat)
      case atStart => exact ⟨0, Nat.zero_le _, rfl, H4⟩
      case round =>
        obtain ⟨k, hk, rfl, HK⟩ := hrel
        clear H4 z0 z1
        generalize w3.heap.size = g at *
        obtain ⟨_, z0, z1, _, _⟩ := id HK.2.2
        by_cases hc : k < 200 ∧ ob = false ∧ hi m = 0 ∧ k < lo m
        · obtain ⟨c1, c2, c3, c4⟩ := hc
          subst c2
          have hm64 := hide (show m = lo m by unfold hi at c3; unfold lo; omega)
          have lm := hide (lo_lt m)
          have E1 : (k : Int) < 200 := by omega
          have E3 : (((hi m : Nat) : Int) == 0) = true := by rw [c3]; rfl
          have E4 : (k : Int) < ((lo m : Nat) : Int) := by omega
          have PK := hide (CI.out rfl k (by rw [hm64.out]; exact c4) (by rw [hm64.out]; exact lm.out))
          clear c3 c4
          have C1 := hide (fun W v (H : Lst v F W) => via (pick_any (v := v) (d := k) FF.out (by omega) (by omega) W H) (v' := .tuple #[A (nthV F k), .bool true]) (by rw [PK.out.2.1, PK.out.2.2.1]))
          have C3 := hide (fun W v (H : Lst v F W) => via (rank_any (v := v) FF.out PK.out.2.2.2.2.1 (by omega) W H) (v' := .agg #[.int .u64 0, .int .u64 (k : Nat)]) (by rw [PK.out.2.2.2.1]; exact (A_lo (by omega)).symm))
          have P5 := hide PK.out.2.2.2.2.2
          have P3 := hide PK.out.2.2.1
          generalize hy : nthV F k = y at *
          have HY := hide hy
          clear hy
          clear PK CI
          go_wp2_with fail
          refine (C1.out _ _ HK.2.1).mono ?_
          rintro e w5 ⟨rfl, hb5⟩
          have H5 := HAl.step HK hb5
          have H6 := HAl.step H5 (below_alloc w5 (.cells #[.int .u64 (hi y : Nat), .int .u64 (lo y : Nat)] 35))
          have T6 := two_new w5 y 35
          clear z0 z1 HK C1 H5 hb5
          obtain ⟨_, z0, z1, _, _⟩ := id H6.2.2
          by_cases hov : k + lo m < 18446744073709551616
          · have C2 := hide (fun W v (H : Lst v F W) => via (pick_any (v := v) (d := k + lo m) FF.out (by omega) (by omega) W H) (v' := .tuple #[A y, .bool true]) (by rw [show pickN F (k + lo m) = k from hm64.out ▸ P5.out, P3.out, HY.out]))
            have WS : IntKind.u64.wrap ((k : Int) + ((lo m : Nat) : Int)) = ((k + lo m : Nat) : Int) := by
              have := lm.out
              unfold IntKind.wrap
              simp [IntKind.bits, IntKind.signed]
              omega
            have G : ((lo m : Nat) : Int) ≤ ((k + lo m : Nat) : Int) := by omega
            clear hov
            go_wp2_with fail
            refine (C2.out _ _ H6.2.1).mono ?_
            rintro e w7 ⟨rfl, hb7⟩
            have H7 := HAl.step H6 hb7
            have T7 := T6.step hb7
            have H8 := HAl.step H7 (below_alloc w7 (.cells #[.int .u64 (hi y : Nat), .int .u64 (lo y : Nat)] 35))
            have T8 := T7.step (below_alloc w7 (.cells #[.int .u64 (hi y : Nat), .int .u64 (lo y : Nat)] 35))
            have U8 := two_new w7 y 35
            clear H6 hb7 T6 C2 z0 z1 H7
            obtain ⟨_, z0, z1, _, _⟩ := id H8.2.2
            obtain ⟨_, t0, t1, _, _⟩ := id T8
            clear T7
            go_wp2_with fail
            refine (C3.out _ _ H8.2.1).mono ?_
            rintro e w9 ⟨rfl, hb9⟩
            have H9 := HAl.step H8 hb9
            have T9 := T8.step hb9
            have U9 := U8.step hb9
            clear z0 z1 t0 t1 H8 T8 U8 C3 hb9
            obtain ⟨_, z0, z1, _, _⟩ := id H9.2.2
            obtain ⟨_, t0, t1, _, _⟩ := id T9
            obtain ⟨_, u0, u1, _, _⟩ := id U9
            go_wp2
            go_roundw
            case rel => exact ⟨k + 1, by omega, by go_num, H9⟩
            case measure => simp [intOf]; omega
          · obtain ⟨sm, hsm⟩ : ∃ sm : Nat, k + lo m = sm + 18446744073709551616 := ⟨k + lo m - 18446744073709551616, by omega⟩
            have fsm : sm < 18446744073709551616 := by have := lm.out; omega
            have C2 := hide (fun W v (H : Lst v F W) => pick_any (v := v) (d := sm) FF.out fsm (by omega) W H)
            generalize nthV F (pickN F sm) = y2 at *
            generalize nthO F (pickN F sm) = o2 at *
            have WS : IntKind.u64.wrap ((k : Int) + ((lo m : Nat) : Int)) = (sm : Int) := by
              unfold IntKind.wrap
              simp [IntKind.bits, IntKind.signed]
              omega
            have G : ¬ ((lo m : Nat) : Int) ≤ (sm : Int) := by omega
            clear hov hsm fsm
            go_wp2_with fail
            refine (C2.out _ _ H6.2.1).mono ?_
            rintro e w7 ⟨rfl, hb7⟩
            have H7 := HAl.step H6 hb7
            have H8 := HAl.step H7 (below_alloc w7 (.cells #[.int .u64 (hi y2 : Nat), .int .u64 (lo y2 : Nat)] 35))
            have T8 := (T6.step hb7).step (below_alloc w7 (.cells #[.int .u64 (hi y2 : Nat), .int .u64 (lo y2 : Nat)] 35))
            clear H6 hb7 T6 C2 z0 z1 H7
            obtain ⟨_, z0, z1, _, _⟩ := id H8.2.2
            obtain ⟨_, t0, t1, _, _⟩ := id T8
            go_wp2_with fail
            refine (C3.out _ _ H8.2.1).mono ?_
            rintro e w9 ⟨rfl, hb9⟩
            have H9 := HAl.step H8 hb9
            clear z0 z1 t0 t1 H8 T8 C3 hb9
            obtain ⟨_, z0, z1, _, _⟩ := id H9.2.2
            go_wp2
            go_roundw
            case rel => exact ⟨k + 1, by omega, by go_num, H9⟩
            case measure => simp [intOf]; omega
        · go_wp2_with fail
          all_goals (first | (go_meet; first | exact ⟨rfl, HK⟩ | exact ⟨congrArg Value.bool (show ob = true by assumption).symm, HK⟩ | exact ⟨congrArg Value.bool (Bool.eq_false_iff.2 (by assumption)).symm, HK⟩) | (exact absurd (show k < 200 ∧ ob = false ∧ hi m = 0 ∧ k < lo m from ⟨by omega, Bool.eq_false_iff.2 (by assumption), by assumption, by assumption⟩) hc))
    case rest =>
      obtain ⟨rfl, HK⟩ := hcut
      obtain ⟨HB0, L0, T0⟩ := HK
      generalize w3.heap.size = g9 at *
      have VF := hide (fun W (H : Below wc.heap.size wc W) => L0.step H)
      have DR := hide (fun W (H : Below wc.heap.size wc W) => HD.out W (chain HB0 H))
      have BW := hide (fun W (H : Below wc.heap.size wc W) => chain HB0 H)
      have N0 : HBt wc m (.slice none 0 0) [] (wc.alloc (.cells #[.int .u64 (hi m : Nat), .int .u64 (lo m : Nat)] 35)) := ⟨below_alloc _ _, two_new _ _ _, ownA_nil _ _⟩
      obtain ⟨_, t0, t1, _, _⟩ := id T0
      clear CI HD HB0 L0 T0 H4
      go_wp2_with fail
      clear t0 t1
      go_loopw [10, 17, 18] (fun s10 s17 i wr => ∃ (k : Nat) (b : Bool) (g : List Nat) (left : Nat), k ≤ 200 ∧ i = .int .i64 (k : Nat) ∧ s10 = .bool b ∧ HBt wc left s17 g wr ∧ Hid (SInv F g k b left)) (fun _ _ i _ => 200 - (intOf i).toNat)
      case atStart => exact ⟨0, ob, [], m, Nat.zero_le _, rfl, rfl, N0, SI⟩
      case round =>
        obtain ⟨k, b, g, left, hk, rfl, rfl, HN, SV⟩ := hrel
        clear N0 SI
        by_cases hc : k < dl.length ∧ k < 200
        · obtain ⟨c1, c2⟩ := hc
          obtain ⟨x, hx⟩ := getA_some c1
          have fx := FD.out x (List.mem_of_getElem? hx)
          have DX := hide (fun W (H : Below wc.heap.size wc W) => DR.out W H k x hx)
          obtain ⟨bx, ox, e, _⟩ := DX.out _ HN.1
          subst e
          have E1 : (k : Int) < (dl.length : Int) := by omega
          have E2 : (k : Int) < 200 := by omega
          have hg : g.length = k := SV.out.2.1
          obtain ⟨f1, f2, f3, _⟩ := free_spec SF.out FF.out SV.out.1
          have FR := hide (fun W v u (H : Lst v F W) (K : LstA u g W) => (show Calls Try.prog 12 #[v, u] W (GivesE (freeS F g, 0) W) from by
            have h1 := free_any (vs := v) (vt := u) (s := F) (t := g) FF.out SV.out.1 (by omega) (by omega) W H K
            rwa [show freeR F g = (freeS F g, 0) by unfold freeR; rw [sound_snd.2 SF.out]; rfl] at h1))
          have NS : (freeS F g).length ≤ 800 := by omega
          have PI := hide (fun W v (H : Lst v (freeS F g) W) => pick_any (v := v) (d := x) f2 fx (by omega) W H)
          have PS := hide (pick_spec f1 f2 fx)
          clear f1 f2 f3 hx hg fx
          go_wp2_with fail
          refine (FR.out _ _ _ (VF.out _ HN.1) (ownA_lst HN.2.2)).mono ?_
          rintro e w11 ⟨v11, rfl, hb11, O11⟩
          have H11 := HBt.step HN hb11
          have L11 := own_lst O11
          obtain ⟨p11, c11, rfl⟩ := lst_len L11
          clear HN hb11 O11 FR
          obtain ⟨b2, o2, e2, dx⟩ := DX.out _ H11.1
          cases e2
          by_cases hS : freeS F g = []
          · obtain ⟨l0, b0⟩ := sinv_none SV.out hS
            have P0 := hide (fun W v (H : Lst v (freeS F g) W) => via (PI.out W v H) (v' := .tuple #[.agg #[.int .u64 0, .int .u64 0], .bool false]) (by rw [PS.out.2.1 hS, PS.out.1, hS]; rfl))
            subst l0 b0
            clear PI PS hS
            go_wp2_with fail
            refine (P0.out _ _ L11).mono ?_
            rintro e w12 ⟨rfl, hb12⟩
            have H12 := HBt.step H11 hb12
            have H13 := HBt.step H12 (below_alloc w12 (.cells #[.int .u64 0, .int .u64 0] 35))
            have Q13 : (w12.alloc (.cells #[.int .u64 0, .int .u64 0] 35)).cell? ⟨wc.heap.size, 0, none⟩ = some (.int .u64 0) ∧ (w12.alloc (.cells #[.int .u64 0, .int .u64 0] 35)).cell? ⟨wc.heap.size, 1, none⟩ = some (.int .u64 0) := ⟨H13.2.1.2.1, H13.2.1.2.2.1⟩
            have Q12 : w12.cell? ⟨wc.heap.size, 0, none⟩ = some (.int .u64 0) ∧ w12.cell? ⟨wc.heap.size, 1, none⟩ = some (.int .u64 0) := ⟨H12.2.1.2.1, H12.2.1.2.2.1⟩
            obtain ⟨q0, q1⟩ := Q12
            obtain ⟨q2, q3⟩ := Q13
            have HE := BW.out _ H13.1
            clear H11 H12 hb12 L11 P0 H13 dx
            go_wp2
            go_ret
            exact ⟨rfl, HE⟩
          · obtain ⟨m1, m2, m3⟩ := PS.out.2.2 hS
            have OK1 : nthO (freeS F g) (pickN (freeS F g) x) = true := by
              rw [PS.out.1]
              exact decide_eq_true (Nat.pos_of_ne_zero (fun e => hS (List.length_eq_zero_iff.1 e)))
            have P0 := hide (fun W v (H : Lst v (freeS F g) W) => via (PI.out W v H) (v' := .tuple #[A (nthV (freeS F g) (pickN (freeS F g) x)), .bool true]) (by rw [OK1]))
            have NZ := hide (sinv_some SF.out FF.out SV.out hS)
            generalize nthV (freeS F g) (pickN (freeS F g) x) = a at *
            obtain ⟨n1, n2⟩ := sinv_next SF.out FF.out SV.out m3 m1
            have SB := hide (fun W => dec_any (a := left) (sinv_fits SV.out) W)
            have GL := SV.out.2.1
            have LG : g.length + 1 ≤ 1000000 := by omega
            have FR2 := hide (fun W v u (H : Lst v F W) (K : LstA u (g ++ [a]) W) => (show Calls Try.prog 12 #[v, u] W (GivesE (freeS F (g ++ [a]), 0) W) from by
              have h1 := free_any (vs := v) (vt := u) (s := F) (t := g ++ [a]) FF.out n1.1 (by omega) (by rw [List.length_append]; simp; omega) W H K
              rwa [show freeR F (g ++ [a]) = (freeS F (g ++ [a]), 0) by unfold freeR; rw [sound_snd.2 SF.out]; rfl] at h1))
            obtain ⟨z1, z2, z3, _⟩ := free_spec SF.out FF.out n1.1
            have C2 := hide (fun W v (H : Lst v (freeS F (g ++ [a])) W) => via (count_any (v := v) z2 (by rw [List.length_append] at z3; simp at z3; omega) W H) (v' := .tuple #[A (subS left 1), .bool (cntO (freeS F (g ++ [a])))]) (by rw [n2]))
            have S2 := hide n1
            generalize cntO (freeS F (g ++ [a])) = o3 at *
            generalize subS left 1 = left2 at *
            clear n1 n2 m1 m2 m3 z1 z2 z3 OK1 PI PS hS GL
            go_wp2_with fail
            refine (P0.out _ _ L11).mono ?_
            rintro e w12 ⟨rfl, hb12⟩
            have H12 := HBt.step H11 hb12
            have H13 := HBt.step H12 (below_alloc w12 (.cells #[.int .u64 (hi a : Nat), .int .u64 (lo a : Nat)] 35))
            obtain ⟨_, x0, x1, _, _⟩ := id H12.2.1
            obtain ⟨_, x2, x3, _, _⟩ := id H13.2.1
            obtain ⟨_, t2, t3, _, _⟩ := id (two_new w12 a 35)
            have H14 := HBt.step H13 (below_alloc _ (.cells #[.int .u64 (hi a : Nat), .int .u64 (lo a : Nat)] 35))
            have O14 := H14.2.2
            have Z14 := H14.low
            have ZN : (w12.alloc (.cells #[.int .u64 (hi a : Nat), .int .u64 (lo a : Nat)] 35)).heap.size = w12.heap.size + 1 := by simp
            clear H11 H12 hb12 L11 P0 H13 dx
            cases b with
            | true =>
              clear NZ
              go_wp2_with (at_builtin; refine wpList_append_oneA rfl (.tmp 152) (.tmp 154) rfl (wc.heap.size + 1) _ g rfl O14 _ 1 a rfl (own_twoN ZN) LG Z14 ?_; intro gn cn w15 O15 B15 _ _; have H15 := HBt.app H14 B15 O15; have DX15 := DX.out _ H15.1; obtain ⟨_, q0, q1, q2, q3⟩ := id H15.2.1; clear O14 Z14 H14 B15 O15)
              refine (SB.out _).mono ?_
              rintro e w16 ⟨rfl, hb16⟩
              have H16 := HBt.step H15 hb16
              have H17 := HBt.put H16 left2
              obtain ⟨_, q4, q5, q6, q7⟩ := id H16.2.1
              clear H15 hb16 SB q0 q1 q2 q3 DX15
              go_wp2_with fail
              refine (FR2.out _ _ _ (VF.out _ H17.1) (ownA_lst H17.2.2)).mono ?_
              rintro e w18 ⟨v18, rfl, hb18, O18⟩
              have H18 := HBt.step H17 hb18
              have L18 := own_lst O18
              clear H16 H17 hb18 O18 FR2 q4 q5 q6 q7
              go_wp2_with fail
              refine (C2.out _ _ L18).mono ?_
              rintro e w19 ⟨rfl, hb19⟩
              have H19 := HBt.step H18 hb19
              have H20 := HBt.step H19 (below_alloc w19 (.cells #[.int .u64 (hi left2 : Nat), .int .u64 (lo left2 : Nat)] 35))
              clear H18 hb19 L18 C2 H19
              go_upto_region 33 with fail
              obtain ⟨h2, l2, q4, q5, t4, t5⟩ : ∃ h2 l2 : Int, (w19.alloc (.cells #[.int .u64 (hi left2 : Nat), .int .u64 (lo left2 : Nat)] 35)).cell? ⟨wc.heap.size, 0, none⟩ = some (.int .u64 h2) ∧ (w19.alloc (.cells #[.int .u64 (hi left2 : Nat), .int .u64 (lo left2 : Nat)] 35)).cell? ⟨wc.heap.size, 1, none⟩ = some (.int .u64 l2) ∧ (w19.alloc (.cells #[.int .u64 (hi left2 : Nat), .int .u64 (lo left2 : Nat)] 35)).cell? ⟨w19.heap.size, 0, none⟩ = some (.int .u64 h2) ∧ (w19.alloc (.cells #[.int .u64 (hi left2 : Nat), .int .u64 (lo left2 : Nat)] 35)).cell? ⟨w19.heap.size, 1, none⟩ = some (.int .u64 l2) :=
                ⟨_, _, H20.2.1.2.1, H20.2.1.2.2.1, (two_new w19 left2 35).2.1, (two_new w19 left2 35).2.2.1⟩
              generalize w19.alloc (.cells #[.int .u64 (hi left2 : Nat), .int .u64 (lo left2 : Nat)] 35) = w20 at *
              generalize w19.heap.size = g23 at *
              go_wp2
              go_roundw
              case rel => exact ⟨k + 1, false, g ++ [a], left2, by omega, by go_num, rfl, by simpa using H20, S2⟩
              case measure => simp [intOf]; omega
            | false =>
              rcases words_pos2 (NZ.out rfl) with ⟨nb1, nb2⟩ | ⟨nb1, nb2, nb3⟩
              · clear NZ
                go_wp2_with (at_builtin; refine wpList_append_oneA rfl (.tmp 152) (.tmp 154) rfl (wc.heap.size + 1) _ g rfl O14 _ 1 a rfl (own_twoN ZN) LG Z14 ?_; intro gn cn w15 O15 B15 _ _; have H15 := HBt.app H14 B15 O15; have DX15 := DX.out _ H15.1; obtain ⟨_, q0, q1, q2, q3⟩ := id H15.2.1; clear O14 Z14 H14 B15 O15)
                refine (SB.out _).mono ?_
                rintro e w16 ⟨rfl, hb16⟩
                have H16 := HBt.step H15 hb16
                have H17 := HBt.put H16 left2
                obtain ⟨_, q4, q5, q6, q7⟩ := id H16.2.1
                clear H15 hb16 SB q0 q1 q2 q3 DX15
                go_wp2_with fail
                refine (FR2.out _ _ _ (VF.out _ H17.1) (ownA_lst H17.2.2)).mono ?_
                rintro e w18 ⟨v18, rfl, hb18, O18⟩
                have H18 := HBt.step H17 hb18
                have L18 := own_lst O18
                clear H16 H17 hb18 O18 FR2 q4 q5 q6 q7
                go_wp2_with fail
                refine (C2.out _ _ L18).mono ?_
                rintro e w19 ⟨rfl, hb19⟩
                have H19 := HBt.step H18 hb19
                have H20 := HBt.step H19 (below_alloc w19 (.cells #[.int .u64 (hi left2 : Nat), .int .u64 (lo left2 : Nat)] 35))
                clear H18 hb19 L18 C2 H19
                go_upto_region 33 with fail
                obtain ⟨h2, l2, q4, q5, t4, t5⟩ : ∃ h2 l2 : Int, (w19.alloc (.cells #[.int .u64 (hi left2 : Nat), .int .u64 (lo left2 : Nat)] 35)).cell? ⟨wc.heap.size, 0, none⟩ = some (.int .u64 h2) ∧ (w19.alloc (.cells #[.int .u64 (hi left2 : Nat), .int .u64 (lo left2 : Nat)] 35)).cell? ⟨wc.heap.size, 1, none⟩ = some (.int .u64 l2) ∧ (w19.alloc (.cells #[.int .u64 (hi left2 : Nat), .int .u64 (lo left2 : Nat)] 35)).cell? ⟨w19.heap.size, 0, none⟩ = some (.int .u64 h2) ∧ (w19.alloc (.cells #[.int .u64 (hi left2 : Nat), .int .u64 (lo left2 : Nat)] 35)).cell? ⟨w19.heap.size, 1, none⟩ = some (.int .u64 l2) :=
                  ⟨_, _, H20.2.1.2.1, H20.2.1.2.2.1, (two_new w19 left2 35).2.1, (two_new w19 left2 35).2.2.1⟩
                generalize w19.alloc (.cells #[.int .u64 (hi left2 : Nat), .int .u64 (lo left2 : Nat)] 35) = w20 at *
                generalize w19.heap.size = g23 at *
                go_wp2
                go_roundw
                case rel => exact ⟨k + 1, false, g ++ [a], left2, by omega, by go_num, rfl, by simpa using H20, S2⟩
                case measure => simp [intOf]; omega
              · clear NZ
                go_wp2_with (at_builtin; refine wpList_append_oneA rfl (.tmp 152) (.tmp 154) rfl (wc.heap.size + 1) _ g rfl O14 _ 1 a rfl (own_twoN ZN) LG Z14 ?_; intro gn cn w15 O15 B15 _ _; have H15 := HBt.app H14 B15 O15; have DX15 := DX.out _ H15.1; obtain ⟨_, q0, q1, q2, q3⟩ := id H15.2.1; clear O14 Z14 H14 B15 O15)
                refine (SB.out _).mono ?_
                rintro e w16 ⟨rfl, hb16⟩
                have H16 := HBt.step H15 hb16
                have H17 := HBt.put H16 left2
                obtain ⟨_, q4, q5, q6, q7⟩ := id H16.2.1
                clear H15 hb16 SB q0 q1 q2 q3 DX15
                go_wp2_with fail
                refine (FR2.out _ _ _ (VF.out _ H17.1) (ownA_lst H17.2.2)).mono ?_
                rintro e w18 ⟨v18, rfl, hb18, O18⟩
                have H18 := HBt.step H17 hb18
                have L18 := own_lst O18
                clear H16 H17 hb18 O18 FR2 q4 q5 q6 q7
                go_wp2_with fail
                refine (C2.out _ _ L18).mono ?_
                rintro e w19 ⟨rfl, hb19⟩
                have H19 := HBt.step H18 hb19
                have H20 := HBt.step H19 (below_alloc w19 (.cells #[.int .u64 (hi left2 : Nat), .int .u64 (lo left2 : Nat)] 35))
                clear H18 hb19 L18 C2 H19
                go_upto_region 33 with fail
                obtain ⟨h2, l2, q4, q5, t4, t5⟩ : ∃ h2 l2 : Int, (w19.alloc (.cells #[.int .u64 (hi left2 : Nat), .int .u64 (lo left2 : Nat)] 35)).cell? ⟨wc.heap.size, 0, none⟩ = some (.int .u64 h2) ∧ (w19.alloc (.cells #[.int .u64 (hi left2 : Nat), .int .u64 (lo left2 : Nat)] 35)).cell? ⟨wc.heap.size, 1, none⟩ = some (.int .u64 l2) ∧ (w19.alloc (.cells #[.int .u64 (hi left2 : Nat), .int .u64 (lo left2 : Nat)] 35)).cell? ⟨w19.heap.size, 0, none⟩ = some (.int .u64 h2) ∧ (w19.alloc (.cells #[.int .u64 (hi left2 : Nat), .int .u64 (lo left2 : Nat)] 35)).cell? ⟨w19.heap.size, 1, none⟩ = some (.int .u64 l2) :=
                  ⟨_, _, H20.2.1.2.1, H20.2.1.2.2.1, (two_new w19 left2 35).2.1, (two_new w19 left2 35).2.2.1⟩
                generalize w19.alloc (.cells #[.int .u64 (hi left2 : Nat), .int .u64 (lo left2 : Nat)] 35) = w20 at *
                generalize w19.heap.size = g23 at *
                go_wp2
                go_roundw
                case rel => exact ⟨k + 1, false, g ++ [a], left2, by omega, by go_num, rfl, by simpa using H20, S2⟩
                case measure => simp [intOf]; omega
        · go_wp2_with fail
          all_goals (go_ret; exact ⟨rfl, BW.out _ HN.1⟩)
end Go.Proofs.Ytfmhpnendcikoaa
