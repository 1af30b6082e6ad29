/-
  The walk of the law SpanMembers: it returns true. Conditions: the words are words of 64 bits (every value of the types is such).
-/
import Derived.Test.YtbcdmnlkbghkpaaSpanK
namespace Go.Proofs.Ytbcdmnlkbghkpaa
open Go.RowKit Go.Joins

theorem hasB_iff {l : List Rg} (hs : Snd l) (a : Nat) : hasB l a = true ↔ memL l a := by
  unfold hasB
  rw [sound_snd.2 hs, Bool.true_and, decide_eq_true_eq, mem_at]
  constructor
  · intro h
    have hl := to_le l a
    have hx := some_getD (show fromS l a < l.length by omega)
    have h1 := (to_iff hs hx (b := a)).1 h
    have h2 := fun e => (from_iff hs hx (a := a)).2 e
    exact ⟨_, _, hx, h1, by omega⟩
  · rintro ⟨i, x, hx, h1, h2⟩
    have h3 := (to_iff hs hx (b := a)).2 h1
    have h4 := fun e => (from_iff hs hx (a := a)).1 e
    omega
theorem in_iff (r : Rg) (a : Nat) : inB r a = true ↔ inR r a := by unfold inB inR; simp
theorem has_put {s : List Rg} {r : Rg} (hs : Snd s) (hf : FitL s) (hr : r.1 ≤ r.2) (a : Nat) : hasB (putL s r) a = (hasB s a || inB r a) := by
  obtain ⟨h1, h2⟩ := put_spec hs hf hr
  rw [Bool.eq_iff_iff, Bool.or_eq_true, hasB_iff h1, hasB_iff hs, in_iff, h2]
theorem snd_one {r : Rg} (hr : r.1 ≤ r.2) : Snd [r] := ⟨hr, by simp, trivial⟩
theorem mem_one {r : Rg} {a : Nat} : memL [r] a ↔ inR r a := by
  rw [mem_cons]
  exact ⟨fun h => h.elim id fun h => absurd h (mem_nil _), Or.inl⟩
theorem has_less {s o : List Rg} (hs : Snd s) (ho : Snd o) (a : Nat) : hasB (lessL s o) a = (hasB s a && !hasB o a) := by
  obtain ⟨h1, _, h2⟩ := less_spec hs ho
  rw [Bool.eq_iff_iff, Bool.and_eq_true, hasB_iff h1, hasB_iff hs, h2, Bool.not_eq_true', ← Bool.not_eq_true, hasB_iff ho]
theorem has_drop {s : List Rg} {r : Rg} (hs : Snd s) (hr : r.1 ≤ r.2) (a : Nat) : hasB (lessL s [r]) a = (hasB s a && !inB r a) := by
  obtain ⟨h1, _, h2⟩ := less_spec hs (snd_one hr)
  rw [Bool.eq_iff_iff, Bool.and_eq_true, hasB_iff h1, hasB_iff hs, h2, mem_one, Bool.not_eq_true', ← Bool.not_eq_true, in_iff]
theorem back_same {s : List Rg} {r : Rg} (hs : Snd s) (hf : FitL s) (hr : r.1 ≤ r.2) : putL (lessL s [r]) r = putL s r := by
  obtain ⟨h1, _, h2⟩ := less_spec hs (snd_one hr)
  obtain ⟨p1, p2⟩ := put_spec hs hf hr
  obtain ⟨q1, q2⟩ := put_spec h1 (less_fit hs (snd_one hr) hf) hr
  refine snd_ext q1 p1 fun a => ?_
  rw [q2, p2, h2, mem_one]
  constructor
  · rintro (⟨h, _⟩ | h)
    · exact Or.inl h
    · exact Or.inr h
  · rintro (h | h)
    · by_cases hi : inR r a
      · exact Or.inr hi
      · exact Or.inl ⟨h, hi⟩
    · exact Or.inr h
/-- the boxes of the range and the address -/
def HMm (w : World) (r : Rg) (a : Nat) (W : World) : Prop := Below w.heap.size w W ∧ Four w.heap.size r W ∧ Two (w.heap.size + 1) a W
theorem HMm.step {w : World} {r : Rg} {a : Nat} {W w2 : World} (h : HMm w r a W) (hb : Below W.heap.size W w2) : HMm w r a w2 := ⟨h.1.trans (hb.mono h.1.size), h.2.1.step hb, h.2.2.step hb⟩
theorem hmm_new (w : World) (r : Rg) (a : Nat) : HMm w r a ((w.alloc (.cells #[.int .u64 (hi r.1 : Nat), .int .u64 (lo r.1 : Nat), .int .u64 (hi r.2 : Nat), .int .u64 (lo r.2 : Nat)] 27)).alloc (.cells #[.int .u64 (hi a : Nat), .int .u64 (lo a : Nat)] 25)) := by
  have h2 := two_new (w.alloc (.cells #[.int .u64 (hi r.1 : Nat), .int .u64 (lo r.1 : Nat), .int .u64 (hi r.2 : Nat), .int .u64 (lo r.2 : Nat)] 27)) a 25
  rw [World.size_alloc] at h2
  exact ⟨chain (below_alloc _ _) (below_alloc _ _), (four_new w r _).step (below_alloc _ _), h2⟩
theorem builtL_good {l : List Rg} (hf : FitL l) : Snd (builtL l) ∧ FitL (builtL l) ∧ (builtL l).length ≤ 200 := built_good hf 200
/-- five addresses in a block -/
def Five (g : Nat) (q : Nat → Nat) (W : World) : Prop := ∀ i, i < 5 → W.cell? ⟨g, i * 2, none⟩ = some (.int .u64 (hi (q i) : Nat)) ∧ W.cell? ⟨g, i * 2 + 1, none⟩ = some (.int .u64 (lo (q i) : Nat))
theorem Five.step {g : Nat} {q : Nat → Nat} {W w2 : World} (h : Five g q W) (hb : Below W.heap.size W w2) : Five g q w2 := fun i hi => ⟨keep_cell hb (h i hi).1, keep_cell hb (h i hi).2⟩
def pick5 (a b c d e : Nat) (i : Nat) : Nat := match i with | 0 => a | 1 => b | 2 => c | 3 => d | _ => e
theorem five_new (V : World) (a b c d e : Nat) (t : TypeId) : Five V.heap.size (pick5 a b c d e) (V.alloc (.cells #[.int .u64 (hi a : Nat), .int .u64 (lo a : Nat), .int .u64 (hi b : Nat), .int .u64 (lo b : Nat), .int .u64 (hi c : Nat), .int .u64 (lo c : Nat), .int .u64 (hi d : Nat), .int .u64 (lo d : Nat), .int .u64 (hi e : Nat), .int .u64 (lo e : Nat)] t)) := by
  intro i hi5
  have : i = 0 ∨ i = 1 ∨ i = 2 ∨ i = 3 ∨ i = 4 := by omega
  rcases this with rfl | rfl | rfl | rfl | rfl <;> constructor <;> simp [go_sem, pick5]
/-- all that the loop of SpanMembers reads -/
def HLp (w : World) (r : Rg) (a g : Nat) (q : Nat → Nat) (vs vx vy : Value) (s x y : List Rg) (W : World) : Prop := HMm w r a W ∧ Five g q W ∧ Lst vs s W ∧ Lst vx x W ∧ Lst vy y W
theorem HLp.step {w : World} {r : Rg} {a g : Nat} {q : Nat → Nat} {vs vx vy : Value} {s x y : List Rg} {W w2 : World} (h : HLp w r a g q vs vx vy s x y W) (hb : Below W.heap.size W w2) : HLp w r a g q vs vx vy s x y w2 := ⟨h.1.step hb, h.2.1.step hb, h.2.2.1.step hb, h.2.2.2.1.step hb, h.2.2.2.2.step hb⟩

set_option maxRecDepth 100000 in
set_option maxHeartbeats 2000000 in
theorem members_bad {v : Value} {l : List Rg} {r : Rg} {a : Nat} (hf : FitL l) (fr : FitR r) (hr : ¬ r.1 ≤ r.2) (w : World) (hv : Lst v l w) :
    Calls Try.prog 5 #[v, RV r, A a] w (Gives (.bool true) w) := by
  obtain ⟨g1, g2, g3⟩ := builtL_good hf
  have okr : okR r = false := by unfold okR; simp; omega
  have AW := hide (fun W => awake_any W)
  have BU := hide (fun W H => built_any (v := v) hf W H)
  generalize builtL l = s at *
  have SO := hide (fun W vs (H : Lst vs s W) => via (sound_any g2 (by omega) W H) (v' := .bool true) (by rw [sound_snd.2 g1]))
  have PB := hide (fun W vs (H : Lst vs s W) => put_bad (r := r) g2 (by omega) (Or.inr okr) W H)
  have DB := hide (fun W vs (H : Lst vs s W) => drop_bad (r := r) g2 fr (Or.inr okr) (by omega) W H)
  have CM := hide (fun W => cmp_any r.1 r.2 W)
  have P0 : 0 < cmpS r.1 r.2 := by rw [cmpS_gt (by omega)]; omega
  have H0 := hmm_new w r a
  have V0 := hv.step H0.1
  obtain ⟨p, c, rfl⟩ := lst_len hv
  clear okr hr
  go_enter Try.func5, Try.ntmps5
  go_wp2_with fail
  refine (AW.out _).mono ?_
  rintro e w1 ⟨rfl, hb1⟩
  have H1 := H0.step hb1
  have V1 := V0.step hb1
  clear hb1 H0 V0
  go_wp2_with fail
  refine (BU.out _ V1).mono ?_
  rintro e w2 ⟨vs, rfl, hb2, L2⟩
  have H2 := H1.step hb2
  clear hb2 H1 V1
  go_wp2_with fail
  refine (SO.out _ _ L2).mono ?_
  rintro e w3 ⟨rfl, hb3⟩
  have H3 := H2.step hb3
  have L3 := L2.step hb3
  clear hb3 H2 L2
  obtain ⟨_, ⟨z0, ⟨z1, z2, z3, z4⟩, _⟩, _⟩ := id H3
  go_wp2_with fail
  clear z0 z1 z2 z3 z4
  refine (PB.out _ _ L3).mono ?_
  rintro e w4 ⟨rfl, hb4⟩
  have H4 := H3.step hb4
  have L4 := L3.step hb4
  clear hb4 H3 L3
  obtain ⟨_, ⟨z0, ⟨z1, z2, z3, z4⟩, _⟩, _⟩ := id H4
  go_wp2_with fail
  clear z0 z1 z2 z3 z4
  refine (DB.out _ _ L4).mono ?_
  rintro e w5 ⟨rfl, hb5⟩
  have H5 := H4.step hb5
  clear hb5 H4 L4
  obtain ⟨_, ⟨z0, ⟨z1, z2, z3, z4⟩, _⟩, _⟩ := id H5
  go_wp2_with fail
  clear z0 z1 z2 z3 z4
  refine (CM.out _).mono ?_
  rintro e w6 ⟨rfl, hb6⟩
  have H6 := H5.step hb6
  go_wp2
  go_ret
  exact ⟨rfl, H6.1⟩

set_option maxRecDepth 100000 in
set_option maxHeartbeats 4000000 in
theorem members_good {v : Value} {l : List Rg} {r : Rg} {a : Nat} (hf : FitL l) (fr : FitR r) (hr : r.1 ≤ r.2) (w : World) (hv : Lst v l w) :
    Calls Try.prog 5 #[v, RV r, A a] w (Gives (.bool true) w) := by
  obtain ⟨g1, g2, g3⟩ := builtL_good hf
  have okr : okR r = true := by unfold okR; simp; omega
  have AW := hide (fun W => awake_any W)
  have BU := hide (fun W H => built_any (v := v) hf W H)
  generalize builtL l = s at *
  have SO := hide (fun W vs (H : Lst vs s W) => via (sound_any g2 (by omega) W H) (v' := .bool true) (by rw [sound_snd.2 g1]))
  have PB := hide (fun W vs (H : Lst vs s W) => put_any (r := r) g2 fr (sound_snd.2 g1) okr (by omega) W H)
  have DB := hide (fun W vs (H : Lst vs s W) => drop_any (r := r) g2 fr (sound_snd.2 g1) okr (by omega) W H)
  have fx := put_fit g2 fr
  have sx := (put_spec g1 g2 hr).1
  have lx := put_len g1 hr
  have fy := less_fit g1 (snd_one hr) g2
  have sy := (less_spec g1 (snd_one hr)).1
  have ly := crude (l := s) (o := [r]) s.length (Nat.le_refl _)
  rw [List.take_length, List.length_singleton] at ly
  have HP := hide (fun b => has_put g1 g2 hr b)
  have HD := hide (fun b => has_drop g1 hr b)
  have BK := hide (back_same g1 g2 hr)
  generalize putL s r = x at *
  generalize lessL s [r] = y at *
  have SX := hide (fun W vx (H : Lst vx x W) => via (sound_any fx (by omega) W H) (v' := .bool true) (by rw [sound_snd.2 sx]))
  have SY := hide (fun W vy (H : Lst vy y W) => via (sound_any fy (by omega) W H) (v' := .bool true) (by rw [sound_snd.2 sy]))
  have CM := hide (fun W => cmp_any r.1 r.2 W)
  have P0 : ¬ 0 < cmpS r.1 r.2 := by have := cmp_gt r.1 r.2; rw [decide_eq_false (show ¬ r.2 < r.1 by omega)] at this; simpa using this
  have UP := hide (fun W => inc_any fr.2 W)
  have DN := hide (fun W => dec_any fr.1 W)
  have PY := hide (fun W vy (H : Lst vy y W) => put_any (r := r) fy fr (sound_snd.2 sy) okr (by omega) W H)
  rw [BK.out] at PY
  have SM := hide (fun W va vb (H : Lst va x W) (K : Lst vb x W) => cSame (by omega) W H K)
  have HS := hide (fun b W vs (H : Lst vs s W) => has_any g2 (by omega) b W H)
  have HX := hide (fun b W vx (H : Lst vx x W) => has_any fx (by omega) b W H)
  have HY := hide (fun b W vy (H : Lst vy y W) => has_any fy (by omega) b W H)
  have IN := hide (fun b W => in_any r b W)
  have H0 := hmm_new w r a
  have V0 := hv.step H0.1
  obtain ⟨p, c, rfl⟩ := lst_len hv
  clear okr g1 g2 g3 fx sx lx fy sy ly BK
  go_enter Try.func5, Try.ntmps5
  go_wp2_with fail
  refine (AW.out _).mono ?_
  rintro e w1 ⟨rfl, hb1⟩
  have H1 := H0.step hb1
  have V1 := V0.step hb1
  clear hb1 H0 V0
  go_wp2_with fail
  refine (BU.out _ V1).mono ?_
  rintro e w2 ⟨vs, rfl, hb2, L2⟩
  have H2 := H1.step hb2
  clear hb2 H1 V1
  go_wp2_with fail
  refine (SO.out _ _ L2).mono ?_
  rintro e w3 ⟨rfl, hb3⟩
  have H3 := H2.step hb3
  have L3 := L2.step hb3
  clear hb3 H2 L2
  obtain ⟨_, ⟨z0, ⟨z1, z2, z3, z4⟩, _⟩, _⟩ := id H3
  go_wp2_with fail
  clear z0 z1 z2 z3 z4
  refine (PB.out _ _ L3).mono ?_
  rintro e w4 ⟨vx, rfl, hb4, ho4⟩
  have H4 := H3.step hb4
  have L4 := L3.step hb4
  have X4 := own_lst ho4
  clear hb4 H3 L3 ho4
  obtain ⟨_, ⟨z0, ⟨z1, z2, z3, z4⟩, _⟩, _⟩ := id H4
  go_wp2_with fail
  clear z0 z1 z2 z3 z4
  refine (DB.out _ _ L4).mono ?_
  rintro e w5 ⟨vy, rfl, hb5, ho5⟩
  have H5 := H4.step hb5
  have L5 := L4.step hb5
  have X5 := X4.step hb5
  have Y5 := own_lst ho5
  clear hb5 H4 L4 X4 ho5
  obtain ⟨_, ⟨z0, ⟨z1, z2, z3, z4⟩, _⟩, _⟩ := id H5
  go_wp2_with fail
  clear z0 z1 z2 z3 z4
  refine (CM.out _).mono ?_
  rintro e w6 ⟨rfl, hb6⟩
  have H6 := H5.step hb6
  have L6 := L5.step hb6
  have X6 := X5.step hb6
  have Y6 := Y5.step hb6
  clear hb6 H5 L5 X5 Y5
  go_wp2_with fail
  refine (SX.out _ _ X6).mono ?_
  rintro e w7 ⟨rfl, hb7⟩
  have H7 := H6.step hb7
  have L7 := L6.step hb7
  have X7 := X6.step hb7
  have Y7 := Y6.step hb7
  clear hb7 H6 L6 X6 Y6
  go_wp2_with fail
  refine (SY.out _ _ Y7).mono ?_
  rintro e w8 ⟨rfl, hb8⟩
  have H8 := H7.step hb8
  have L8 := L7.step hb8
  have X8 := X7.step hb8
  have Y8 := Y7.step hb8
  clear hb8 H7 L7 X7 Y7
  obtain ⟨_, ⟨z0, ⟨z1, z2, z3, z4⟩, _⟩, _⟩ := id H8
  go_wp2_with fail
  clear z0 z1 z2 z3 z4
  refine (UP.out _).mono ?_
  rintro e w9 ⟨rfl, hb9⟩
  have H9 := H8.step hb9
  have L9 := L8.step hb9
  have X9 := X8.step hb9
  have Y9 := Y8.step hb9
  clear hb9 H8 L8 X8 Y8
  generalize addS r.2 1 = up
  obtain ⟨_, ⟨z0, ⟨z1, z2, z3, z4⟩, _⟩, _⟩ := id H9
  have U9 := two_new w9 up 25
  have AL := below_alloc w9 (.cells #[.int .u64 (hi up : Nat), .int .u64 (lo up : Nat)] 25)
  go_wp2_with fail
  clear z0 z1 z2 z3 z4
  refine (DN.out _).mono ?_
  rintro e w10 ⟨rfl, hb10⟩
  have H10 := (H9.step AL).step hb10
  have L10 := (L9.step AL).step hb10
  have X10 := (X9.step AL).step hb10
  have Y10 := (Y9.step AL).step hb10
  have U10 := U9.step hb10
  clear hb10 H9 L9 X9 Y9 U9 AL
  generalize subS r.1 1 = dn
  generalize w9.heap.size = g9 at U10 ⊢
  have D10 := two_new w10 dn 25
  have AL := below_alloc w10 (.cells #[.int .u64 (hi dn : Nat), .int .u64 (lo dn : Nat)] 25)
  obtain ⟨_, ⟨z0, ⟨z1, z2, z3, z4⟩, _⟩, y0, y1, y2, _⟩ := id H10
  obtain ⟨u0, u1, u2, _⟩ := id U10
  have F12 := five_new (w10.alloc (.cells #[.int .u64 (hi dn : Nat), .int .u64 (lo dn : Nat)] 25)) a r.1 r.2 up dn 46
  have AM := below_alloc (w10.alloc (.cells #[.int .u64 (hi dn : Nat), .int .u64 (lo dn : Nat)] 25)) (.cells #[.int .u64 (hi a : Nat), .int .u64 (lo a : Nat), .int .u64 (hi r.1 : Nat), .int .u64 (lo r.1 : Nat), .int .u64 (hi r.2 : Nat), .int .u64 (lo r.2 : Nat), .int .u64 (hi up : Nat), .int .u64 (lo up : Nat), .int .u64 (hi dn : Nat), .int .u64 (lo dn : Nat)] 46)
  rw [World.size_alloc] at F12
  go_wp2
  clear z0 z1 z2 z3 z4 y0 y1 y2 u0 u1 u2 D10
  have HL : HLp w r a (w10.heap.size + 1) (pick5 a r.1 r.2 up dn) vs vx vy s x y _ := ⟨(H10.step AL).step AM, F12, (L10.step AL).step AM, (X10.step AL).step AM, (Y10.step AL).step AM⟩
  clear H10 F12 L10 X10 Y10 AL AM U10
  generalize w10.heap.size + 1 = g at HL ⊢
  generalize pick5 a r.1 r.2 up dn = q at HL
  generalize (w10.alloc (.cells #[.int .u64 (hi dn : Nat), .int .u64 (lo dn : Nat)] 25)).alloc (.cells #[.int .u64 (hi a : Nat), .int .u64 (lo a : Nat), .int .u64 (hi r.1 : Nat), .int .u64 (lo r.1 : Nat), .int .u64 (hi r.2 : Nat), .int .u64 (lo r.2 : Nat), .int .u64 (hi up : Nat), .int .u64 (lo up : Nat), .int .u64 (hi dn : Nat), .int .u64 (lo dn : Nat)] 46) = w11 at HL ⊢
  generalize w10.heap.size = g10
  go_loopw [17] (fun i wr => ∃ k : Nat, k ≤ 5 ∧ i = .int .i64 (k : Nat) ∧ HLp w r a g q vs vx vy s x y wr) (fun i _ => 5 - (intOf i).toNat)
  case atStart => exact ⟨0, Nat.zero_le _, rfl, HL⟩
  case round =>
    obtain ⟨k, hk, rfl, HC⟩ := hrel
    clear HL
    by_cases hlt : k < 5
    · obtain ⟨c1, c2⟩ := HC.2.1 k hlt
      generalize hb : q k = b at c1 c2
      clear hb
      have KL : (k : Int) < 5 := by omega
      go_wp2_with fail
      clear c1 c2
      have HB := two_new wr b 25
      have HC := HC.step (below_alloc wr (.cells #[.int .u64 (hi b : Nat), .int .u64 (lo b : Nat)] 25))
      generalize wr.alloc (.cells #[.int .u64 (hi b : Nat), .int .u64 (lo b : Nat)] 25) = wn at HB HC ⊢
      generalize wr.heap.size = gb at HB ⊢
      have hp := HP.out b
      have hd := HD.out b
      cases es : hasB s b with
      | true =>
        cases ei : inB r b with
        | true =>
          have hp : hasB x b = true := by rw [hp, es, ei]; rfl
          have hd : hasB y b = false := by rw [hd, es, ei]; rfl
          have es := hide es
          have ei := hide ei
          have hp := hide hp
          have hd := hide hd
          refine (via (HS.out b _ _ HC.2.2.1) (v' := .bool true) (by rw [es.out])).mono ?_
          rintro e wa0 ⟨rfl, hb0⟩
          have HC := HC.step hb0
          have HB := HB.step hb0
          clear hb0
          obtain ⟨⟨_, ⟨z0, ⟨z1, z2, z3, z4⟩, _⟩, _⟩, _⟩ := id HC
          obtain ⟨b0, b1, b2, _⟩ := id HB
          go_wp2_with fail
          clear z0 z1 z2 z3 z4 b0 b1 b2
          refine (via (HX.out b _ _ HC.2.2.2.1) (v' := .bool true) (by rw [hp.out])).mono ?_
          rintro e wa1 ⟨rfl, hb1⟩
          have HC := HC.step hb1
          have HB := HB.step hb1
          clear hb1
          obtain ⟨⟨_, ⟨z0, ⟨z1, z2, z3, z4⟩, _⟩, _⟩, _⟩ := id HC
          obtain ⟨b0, b1, b2, _⟩ := id HB
          go_wp2_with fail
          clear z0 z1 z2 z3 z4 b0 b1 b2
          refine (via (HY.out b _ _ HC.2.2.2.2) (v' := .bool false) (by rw [hd.out])).mono ?_
          rintro e wa2 ⟨rfl, hb2⟩
          have HC := HC.step hb2
          have HB := HB.step hb2
          clear hb2
          obtain ⟨⟨_, ⟨z0, ⟨z1, z2, z3, z4⟩, _⟩, _⟩, _⟩ := id HC
          obtain ⟨b0, b1, b2, _⟩ := id HB
          go_wp2_with fail
          clear z0 z1 z2 z3 z4 b0 b1 b2
          refine (via (IN.out b _) (v' := .bool true) (by rw [ei.out])).mono ?_
          rintro e wa3 ⟨rfl, hb3⟩
          have HC := HC.step hb3
          have HB := HB.step hb3
          clear hb3
          go_wp2
          go_roundw
          case rel => exact ⟨k + 1, hlt, by go_num, HC⟩
          case measure => simp [intOf]; omega
        | false =>
          have hp : hasB x b = true := by rw [hp, es, ei]; rfl
          have hd : hasB y b = true := by rw [hd, es, ei]; rfl
          have es := hide es
          have ei := hide ei
          have hp := hide hp
          have hd := hide hd
          refine (via (HS.out b _ _ HC.2.2.1) (v' := .bool true) (by rw [es.out])).mono ?_
          rintro e wa0 ⟨rfl, hb0⟩
          have HC := HC.step hb0
          have HB := HB.step hb0
          clear hb0
          obtain ⟨⟨_, ⟨z0, ⟨z1, z2, z3, z4⟩, _⟩, _⟩, _⟩ := id HC
          obtain ⟨b0, b1, b2, _⟩ := id HB
          go_wp2_with fail
          clear z0 z1 z2 z3 z4 b0 b1 b2
          refine (via (HX.out b _ _ HC.2.2.2.1) (v' := .bool true) (by rw [hp.out])).mono ?_
          rintro e wa1 ⟨rfl, hb1⟩
          have HC := HC.step hb1
          have HB := HB.step hb1
          clear hb1
          obtain ⟨⟨_, ⟨z0, ⟨z1, z2, z3, z4⟩, _⟩, _⟩, _⟩ := id HC
          obtain ⟨b0, b1, b2, _⟩ := id HB
          go_wp2_with fail
          clear z0 z1 z2 z3 z4 b0 b1 b2
          refine (via (HY.out b _ _ HC.2.2.2.2) (v' := .bool true) (by rw [hd.out])).mono ?_
          rintro e wa2 ⟨rfl, hb2⟩
          have HC := HC.step hb2
          have HB := HB.step hb2
          clear hb2
          obtain ⟨⟨_, ⟨z0, ⟨z1, z2, z3, z4⟩, _⟩, _⟩, _⟩ := id HC
          obtain ⟨b0, b1, b2, _⟩ := id HB
          go_wp2_with fail
          clear z0 z1 z2 z3 z4 b0 b1 b2
          refine (via (IN.out b _) (v' := .bool false) (by rw [ei.out])).mono ?_
          rintro e wa3 ⟨rfl, hb3⟩
          have HC := HC.step hb3
          have HB := HB.step hb3
          clear hb3
          go_wp2
          go_roundw
          case rel => exact ⟨k + 1, hlt, by go_num, HC⟩
          case measure => simp [intOf]; omega
      | false =>
        cases ei : inB r b with
        | true =>
          have hp : hasB x b = true := by rw [hp, es, ei]; rfl
          have hd : hasB y b = false := by rw [hd, es, ei]; rfl
          have es := hide es
          have ei := hide ei
          have hp := hide hp
          have hd := hide hd
          refine (via (HS.out b _ _ HC.2.2.1) (v' := .bool false) (by rw [es.out])).mono ?_
          rintro e wa0 ⟨rfl, hb0⟩
          have HC := HC.step hb0
          have HB := HB.step hb0
          clear hb0
          obtain ⟨⟨_, ⟨z0, ⟨z1, z2, z3, z4⟩, _⟩, _⟩, _⟩ := id HC
          obtain ⟨b0, b1, b2, _⟩ := id HB
          go_wp2_with fail
          clear z0 z1 z2 z3 z4 b0 b1 b2
          refine (via (HX.out b _ _ HC.2.2.2.1) (v' := .bool true) (by rw [hp.out])).mono ?_
          rintro e wa1 ⟨rfl, hb1⟩
          have HC := HC.step hb1
          have HB := HB.step hb1
          clear hb1
          obtain ⟨⟨_, ⟨z0, ⟨z1, z2, z3, z4⟩, _⟩, _⟩, _⟩ := id HC
          obtain ⟨b0, b1, b2, _⟩ := id HB
          go_wp2_with fail
          clear z0 z1 z2 z3 z4 b0 b1 b2
          refine (via (IN.out b _) (v' := .bool true) (by rw [ei.out])).mono ?_
          rintro e wa2 ⟨rfl, hb2⟩
          have HC := HC.step hb2
          have HB := HB.step hb2
          clear hb2
          obtain ⟨⟨_, ⟨z0, ⟨z1, z2, z3, z4⟩, _⟩, _⟩, _⟩ := id HC
          obtain ⟨b0, b1, b2, _⟩ := id HB
          go_wp2_with fail
          clear z0 z1 z2 z3 z4 b0 b1 b2
          refine (via (HY.out b _ _ HC.2.2.2.2) (v' := .bool false) (by rw [hd.out])).mono ?_
          rintro e wa3 ⟨rfl, hb3⟩
          have HC := HC.step hb3
          have HB := HB.step hb3
          clear hb3
          go_wp2
          go_roundw
          case rel => exact ⟨k + 1, hlt, by go_num, HC⟩
          case measure => simp [intOf]; omega
        | false =>
          have hp : hasB x b = false := by rw [hp, es, ei]; rfl
          have hd : hasB y b = false := by rw [hd, es, ei]; rfl
          have es := hide es
          have ei := hide ei
          have hp := hide hp
          have hd := hide hd
          refine (via (HS.out b _ _ HC.2.2.1) (v' := .bool false) (by rw [es.out])).mono ?_
          rintro e wa0 ⟨rfl, hb0⟩
          have HC := HC.step hb0
          have HB := HB.step hb0
          clear hb0
          obtain ⟨⟨_, ⟨z0, ⟨z1, z2, z3, z4⟩, _⟩, _⟩, _⟩ := id HC
          obtain ⟨b0, b1, b2, _⟩ := id HB
          go_wp2_with fail
          clear z0 z1 z2 z3 z4 b0 b1 b2
          refine (via (HX.out b _ _ HC.2.2.2.1) (v' := .bool false) (by rw [hp.out])).mono ?_
          rintro e wa1 ⟨rfl, hb1⟩
          have HC := HC.step hb1
          have HB := HB.step hb1
          clear hb1
          obtain ⟨⟨_, ⟨z0, ⟨z1, z2, z3, z4⟩, _⟩, _⟩, _⟩ := id HC
          obtain ⟨b0, b1, b2, _⟩ := id HB
          go_wp2_with fail
          clear z0 z1 z2 z3 z4 b0 b1 b2
          refine (via (IN.out b _) (v' := .bool false) (by rw [ei.out])).mono ?_
          rintro e wa2 ⟨rfl, hb2⟩
          have HC := HC.step hb2
          have HB := HB.step hb2
          clear hb2
          obtain ⟨⟨_, ⟨z0, ⟨z1, z2, z3, z4⟩, _⟩, _⟩, _⟩ := id HC
          obtain ⟨b0, b1, b2, _⟩ := id HB
          go_wp2_with fail
          clear z0 z1 z2 z3 z4 b0 b1 b2
          refine (via (HY.out b _ _ HC.2.2.2.2) (v' := .bool false) (by rw [hd.out])).mono ?_
          rintro e wa3 ⟨rfl, hb3⟩
          have HC := HC.step hb3
          have HB := HB.step hb3
          clear hb3
          go_wp2
          go_roundw
          case rel => exact ⟨k + 1, hlt, by go_num, HC⟩
          case measure => simp [intOf]; omega
    · have KL : ¬ (k : Int) < 5 := by omega
      obtain ⟨⟨_, ⟨z0, ⟨z1, z2, z3, z4⟩, _⟩, _⟩, _⟩ := id HC
      go_wp2_with fail
      clear z0 z1 z2 z3 z4
      refine (PY.out _ _ HC.2.2.2.2).mono ?_
      rintro e wb ⟨vb, rfl, hbb, hob⟩
      have HC := HC.step hbb
      have OB := own_lst hob
      clear hbb hob
      go_wp2_with fail
      refine (SM.out _ _ _ OB HC.2.2.2.1).mono ?_
      rintro e wd ⟨rfl, hbd⟩
      go_wp2
      go_ret
      exact ⟨rfl, (HC.step hbd).1.1⟩
theorem members_any {v : Value} {l : List Rg} {r : Rg} {a : Nat} (hf : FitL l) (fr : FitR r) (w : World) (hv : Lst v l w) :
    Calls Try.prog 5 #[v, RV r, A a] w (Gives (.bool true) w) := by
  by_cases hr : r.1 ≤ r.2
  · exact members_good hf fr hr w hv
  · exact members_bad hf fr hr w hv
end Go.Proofs.Ytbcdmnlkbghkpaa
