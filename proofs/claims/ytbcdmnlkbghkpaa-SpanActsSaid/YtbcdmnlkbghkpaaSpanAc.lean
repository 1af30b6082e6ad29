/-
  The walk of SpanActs: it returns true. Condition: the words are words of 64 bits (every value of the types is such).
-/
import Derived.Test.YtbcdmnlkbghkpaaSpanRp
import Derived.Test.YtbcdmnlkbghkpaaSpanLm
namespace Go.Proofs.Ytbcdmnlkbghkpaa
open Go.RowKit Go.Joins

/-- what stands about a call -/
def AC (w : World) (g : Nat) (r : Rg) (v u : Value) (l m : List Rg) (W : World) : Prop := Below w.heap.size w W ∧ Four g r W ∧ Lst v l W ∧ Lst u m W
theorem AC.step {w : World} {g : Nat} {r : Rg} {v u : Value} {l m : List Rg} {W w2 : World} (h : AC w g r v u l m W) (hb : Below W.heap.size W w2) : AC w g r v u l m w2 :=
  ⟨chain h.1 hb, h.2.1.step hb, h.2.2.1.step hb, h.2.2.2.step hb⟩
theorem len_put {l : List Rg} {r : Rg} (hl : l.length ≤ 600) : (actL (soundL l && okR r) (putL l r)).length ≤ 1000000 := by
  unfold actL
  split
  · rename_i h
    obtain ⟨h1, h2⟩ := (Bool.and_eq_true _ _).mp h
    have := put_len (sound_snd.1 h1) (of_decide_eq_true (by unfold okR at h2; exact h2))
    omega
  · simp
theorem len_less {l m : List Rg} (hl : l.length ≤ 600) (hm : m.length ≤ 600) : (actL (soundL l && soundL m) (lessL l m)).length ≤ 1000000 := by
  unfold actL
  split
  · rename_i h
    obtain ⟨h1, h2⟩ := (Bool.and_eq_true _ _).mp h
    have := less_length (sound_snd.1 h1) (sound_snd.1 h2)
    omega
  · simp
theorem same_self {l : List Rg} (hl : l.length ≤ 1000000) (va vb : Value) (W : World) (ha : Lst va l W) (hb : Lst vb l W) : Calls Try.prog 13 #[va, vb] W (Gives (.bool true) W) := by
  have h := same_any hl W ha hb
  rwa [decide_eq_true rfl] at h
set_option maxRecDepth 100000 in
set_option maxHeartbeats 2000000 in
theorem acts_any {v u : Value} {l m : List Rg} {r : Rg} (hf : FitL l) (fm : FitL m) (fr : FitR r) (w : World) (hv : Lst v l w) (hu : Lst u m w) :
    Calls Try.prog 3 #[v, u, RV r] w (Gives (.bool true) w) := by
  have AW := hide (fun W => awake_any W)
  have B0 := below_alloc w (.cells #[.int .u64 (hi r.1 : Nat), .int .u64 (lo r.1 : Nat), .int .u64 (hi r.2 : Nat), .int .u64 (lo r.2 : Nat)] 27)
  have H0 : AC w w.heap.size r v u l m _ := ⟨B0, four_new w r 27, hv.step B0, hu.step B0⟩
  obtain ⟨p, c, hv'⟩ := lst_len hv
  obtain ⟨q, d, hu'⟩ := lst_len hu
  by_cases h1 : (200 : Int) < (l.length : Int)
  · subst hv' hu'
    clear hv hu
    go_enter Try.func3, Try.ntmps3
    go_wp2_with fail
    refine (AW.out _).mono ?_
    rintro e w1 ⟨rfl, hb1⟩
    have H1 := H0.step hb1
    go_wp2
    go_ret
    exact ⟨rfl, H1.1⟩
  by_cases h2 : (200 : Int) < (m.length : Int)
  · subst hv' hu'
    clear hv hu
    go_enter Try.func3, Try.ntmps3
    go_wp2_with fail
    refine (AW.out _).mono ?_
    rintro e w1 ⟨rfl, hb1⟩
    have H1 := H0.step hb1
    go_wp2
    go_ret
    exact ⟨rfl, H1.1⟩
  have hl : l.length ≤ 600 := by omega
  have hm : m.length ≤ 600 := by omega
  have PP := hide (fun W H => pput_any (v := v) hf fr hl W H)
  have RP := hide (fun W H => rput_any (v := v) hf fr hl W H)
  have PD := hide (fun W H => pdrop_any (v := v) hf fr hl W H)
  have RD := hide (fun W H => rdrop_any (v := v) hf fr hl W H)
  have PL := hide (fun W H K => pless_any (v := v) (u := u) hf fm hl hm W H K)
  have RL := hide (fun W H K => rless_any (v := v) (u := u) hf fm hl hm W H K)
  have SP := hide (fun W H => sound_any (v := v) hf (by omega) W H)
  have SR := hide (fun W H => rsound_any (v := v) hf (by omega) W H)
  have A1 := hide (same_self (len_put (r := r) hl))
  have A2 := len_less (m := [r]) hl (by simp)
  rw [sound_one] at A2
  have A2 := hide (same_self A2)
  have A3 := hide (same_self (len_less hl hm))
  generalize actL (soundL l && okR r) (putL l r) = l1 at *
  generalize actL (soundL l && okR r) (lessL l [r]) = l2 at *
  generalize actL (soundL l && soundL m) (lessL l m) = l3 at *
  generalize actN (soundL l && okR r) = n1 at *
  generalize actN (soundL l && soundL m) = n2 at *
  generalize soundL l = sl at *
  subst hv' hu'
  clear hv hu hl hm
  go_enter Try.func3, Try.ntmps3
  go_wp2_with fail
  refine (AW.out _).mono ?_
  rintro e w1 ⟨rfl, hb1⟩
  have H1 := H0.step hb1
  obtain ⟨_, ⟨z0, ⟨z1, z2, z3, z4⟩, _⟩, _⟩ := id H1
  clear H0 B0 hb1
  go_wp2_with fail
  clear z0 z1 z2 z3 z4
  refine (PP.out _ H1.2.2.1).mono ?_
  rintro e w2 ⟨v1, rfl, hb2, Y1⟩
  have H2 := H1.step hb2
  obtain ⟨_, ⟨z0, ⟨z1, z2, z3, z4⟩, _⟩, _⟩ := id H2
  clear H1 hb2
  go_wp2_with fail
  clear z0 z1 z2 z3 z4
  refine (RP.out _ H2.2.2.1).mono ?_
  rintro e w3 ⟨v2, rfl, hb3, Y2⟩
  have H3 := H2.step hb3
  have Y3 := Y1.step hb3
  clear H2 hb3 Y1
  go_wp2_with fail
  refine (A1.out _ _ _ Y3 Y2).mono ?_
  rintro e w4 ⟨rfl, hb4⟩
  have H4 := H3.step hb4
  clear H3 hb4 Y3 Y2
  go_wp2_with fail
  refine (SP.out _ H4.2.2.1).mono ?_
  rintro e w5 ⟨rfl, hb5⟩
  have H5 := H4.step hb5
  clear H4 hb5
  go_wp2_with fail
  refine (SR.out _ H5.2.2.1).mono ?_
  rintro e w6 ⟨rfl, hb6⟩
  have H6 := H5.step hb6
  obtain ⟨_, ⟨z0, ⟨z1, z2, z3, z4⟩, _⟩, _⟩ := id H6
  clear H5 hb6
  go_wp2_with fail
  clear z0 z1 z2 z3 z4
  refine (PD.out _ H6.2.2.1).mono ?_
  rintro e w7 ⟨v3, rfl, hb7, Y1⟩
  have H7 := H6.step hb7
  obtain ⟨_, ⟨z0, ⟨z1, z2, z3, z4⟩, _⟩, _⟩ := id H7
  clear H6 hb7
  go_wp2_with fail
  clear z0 z1 z2 z3 z4
  refine (RD.out _ H7.2.2.1).mono ?_
  rintro e w8 ⟨v4, rfl, hb8, Y2⟩
  have H8 := H7.step hb8
  have Y3 := Y1.step hb8
  clear H7 hb8 Y1
  go_wp2_with fail
  refine (A2.out _ _ _ Y3 Y2).mono ?_
  rintro e w9 ⟨rfl, hb9⟩
  have H9 := H8.step hb9
  clear H8 hb9 Y3 Y2
  go_wp2_with fail
  refine (PL.out _ H9.2.2.1 H9.2.2.2).mono ?_
  rintro e w10 ⟨v5, rfl, hb10, Y1⟩
  have H10 := H9.step hb10
  clear H9 hb10
  go_wp2_with fail
  refine (RL.out _ H10.2.2.1 H10.2.2.2).mono ?_
  rintro e w11 ⟨v6, rfl, hb11, Y2⟩
  have H11 := H10.step hb11
  have Y3 := Y1.step hb11
  clear H10 hb11 Y1
  go_wp2_with fail
  refine (A3.out _ _ _ Y3 Y2).mono ?_
  rintro e w12 ⟨rfl, hb12⟩
  have H12 := H11.step hb12
  go_wp2
  go_ret
  exact ⟨rfl, H12.1⟩
end Go.Proofs.Ytbcdmnlkbghkpaa
