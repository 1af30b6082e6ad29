/-
  The contracts of the document's own Put, Drop and Less, and those of the program in the same words. Conditions: the words are words of 64 bits; at most 600 ranges a list.
-/
import Derived.Test.YtfmhpnendcikoaaGreatSpanMk
namespace Go.Proofs.YtfmhpnendcikoaaGreat
open Go.RowKit Go.Joins

/-- a call's answer: a list and a number -/
def Acts (l : List Rg) (k : Int) (w : World) (e : Ending) (w' : World) : Prop := ∃ v, e = .returned (.tuple #[v, .int .i64 k]) ∧ Below w.heap.size w w' ∧ Lst v l w'
theorem acts_of {l : List Rg} {w : World} {e : Ending} {w' : World} (h : PutGives l w e w') : Acts l 0 w e w' := by
  obtain ⟨v, he, hb, ho⟩ := h
  exact ⟨v, he, hb, own_lst ho⟩
theorem lst_nil (w : World) : Lst (.slice none 0 0) [] w := Or.inl ⟨none, 0, rfl, rfl, fun _ => rfl, by omega⟩
theorem acts_bad {w : World} {e : Ending} {w' : World} (h : Gives (.tuple #[.slice none 0 0, .int .i64 1]) w e w') : Acts [] 1 w e w' := ⟨_, h.1, h.2, lst_nil w'⟩
def actL (b : Bool) (l : List Rg) : List Rg := if b then l else []
def actN (b : Bool) : Int := if b then 0 else 1
theorem pless_any {v u : Value} {l m : List Rg} (hf : FitL l) (fm : FitL m) (hl : l.length ≤ 600) (hm : m.length ≤ 600) (w : World) (hv : Lst v l w) (hu : Lst u m w) :
    Calls Tryz.prog 23 #[v, u] w (Acts (actL (soundL l && soundL m) (lessL l m)) (actN (soundL l && soundL m)) w) := by
  cases h1 : soundL l with
  | false => exact (less_bad hf fm hl hm (Or.inl h1) w hv hu).mono fun e w' h => acts_bad h
  | true =>
    cases h2 : soundL m with
    | false => exact (less_bad hf fm hl hm (Or.inr h2) w hv hu).mono fun e w' h => acts_bad h
    | true => exact (less_any hf fm h1 h2 hl hm w hv hu).mono fun e w' h => acts_of h
theorem own_lit (W : World) (r : Rg) : Own (W.alloc (.cells #[.int .u64 (hi r.1 : Nat), .int .u64 (lo r.1 : Nat), .int .u64 (hi r.2 : Nat), .int .u64 (lo r.2 : Nat)] 36)) W.heap.size (.slice (some ⟨W.heap.size, 0, none⟩) 1 1) [r] :=
  World.ownsRow_lit (base := W.heap.size) (e := 36) (size := 4) W #[.int .u64 (hi r.1 : Nat), .int .u64 (lo r.1 : Nat), .int .u64 (hi r.2 : Nat), .int .u64 (lo r.2 : Nat)] 1 (Nat.le_refl _) (by unfold maxLen; omega) rfl

set_option maxRecDepth 100000 in
set_option maxHeartbeats 1000000 in
theorem rput_any {v : Value} {l : List Rg} {r : Rg} (hf : FitL l) (fr : FitR r) (hl : l.length ≤ 600) (w : World) (hv : Lst v l w) :
    Calls Tryz.prog 21 #[v, RV r] w (Acts (actL (soundL l && okR r) (putL l r)) (actN (soundL l && okR r)) w) := by
  have SB := hide (fun W H => rsound_any (v := v) hf (by omega) W H)
  have LE := hide (show ∀ W, Calls Tryz.prog 39 #[A r.1, A r.2] W (Gives (.bool (okR r)) W) from fun W => rle_any fr.1 fr.2 W)
  have MK := hide (fun W v1 v2 H1 H2 => rmade_any (vy := v1) (vn := v2) (yes := [r] ++ l) (no := []) (fit_append (fit_one fr) hf) (fun x (hx : x ∈ ([] : List Rg)) => by cases hx) (by simp; omega) W H1 H2)
  have F0 := four_new w r 36
  have B0 := below_alloc w (.cells #[.int .u64 (hi r.1 : Nat), .int .u64 (lo r.1 : Nat), .int .u64 (hi r.2 : Nat), .int .u64 (lo r.2 : Nat)] 36)
  have L0 := hide (hv.step B0)
  obtain ⟨p, c, rfl⟩ := lst_len hv
  clear hv
  cases e1 : soundL l with
  | false =>
    rw [e1] at SB
    clear e1
    go_enter Tryz.func21, Tryz.ntmps21
    go_wp2_with fail
    refine (SB.out _ L0.out).mono ?_
    rintro e w1 ⟨rfl, hb1⟩
    go_wp2
    go_ret2
    exact ⟨_, rfl, chain B0 hb1, lst_nil _⟩
  | true =>
    have SP := hide (sound_snd.1 e1)
    rw [e1] at SB
    clear e1
    go_enter Tryz.func21, Tryz.ntmps21
    go_wp2_with fail
    refine (SB.out _ L0.out).mono ?_
    rintro e w1 ⟨rfl, hb1⟩
    have F1 := F0.step hb1
    have B1 := chain B0 hb1
    have L1 := hide (L0.out.step hb1)
    clear F0 B0 hb1 L0
    obtain ⟨z0, ⟨z1, z2, z3, z4⟩, _⟩ := id F1
    go_wp2_with fail
    clear z0 z1 z2 z3 z4
    refine (LE.out _).mono ?_
    rintro e w2 ⟨rfl, hb2⟩
    have F2 := F1.step hb2
    have B2 := chain B1 hb2
    have L2 := hide (L1.out.step hb2)
    clear F1 B1 hb2 L1 LE
    cases e2 : okR r with
    | false =>
      clear F2
      go_wp2
      go_ret2
      rw [e2]
      exact ⟨_, rfl, B2, lst_nil _⟩
    | true =>
      have MP := hide (show madeL ([r] ++ l) [] = putL l r from made_put SP.out hf fr (by unfold okR at e2; exact of_decide_eq_true e2))
      have e3 := hide e2
      clear e2
      obtain ⟨z0, ⟨z1, z2, z3, z4⟩, _⟩ := id F2
      have O3 := own_lit w2 r
      have HB3 := below_alloc w2 (.cells #[.int .u64 (hi r.1 : Nat), .int .u64 (lo r.1 : Nat), .int .u64 (hi r.2 : Nat), .int .u64 (lo r.2 : Nat)] 36)
      have L3 := L2.out.step HB3
      have B3 := chain B2 HB3
      clear F2
      go_wp2_with (at_builtin; refine wpList_append_lst rfl (.tmp 20) (.tmp 21) rfl w2.heap.size _ [r] rfl O3 _ l rfl L3 (by simp; omega) (by simp) ?_; intro v4 w4 O4 HB4 _; have B4 := B2.trans ((HB3.trans HB4).mono B2.size); have Y4 := own_lst O4; clear z0 z1 z2 z3 z4 O3 L3 B3)
      refine (MK.out _ _ _ Y4 (lst_nil _)).mono ?_
      rintro e w5 ⟨v5, rfl, hb5, O5⟩
      rw [MP.out] at O5
      go_wp2
      go_ret2
      rw [e3.out]
      exact ⟨v5, rfl, chain B4 hb5, own_lst O5⟩
set_option maxRecDepth 100000 in
set_option maxHeartbeats 1000000 in
theorem rdrop_any {v : Value} {l : List Rg} {r : Rg} (hf : FitL l) (fr : FitR r) (hl : l.length ≤ 600) (w : World) (hv : Lst v l w) :
    Calls Tryz.prog 41 #[v, RV r] w (Acts (actL (soundL l && okR r) (lessL l [r])) (actN (soundL l && okR r)) w) := by
  have SB := hide (fun W H => rsound_any (v := v) hf (by omega) W H)
  have LE := hide (show ∀ W, Calls Tryz.prog 39 #[A r.1, A r.2] W (Gives (.bool (okR r)) W) from fun W => rle_any fr.1 fr.2 W)
  have MK := hide (fun W v1 v2 H1 H2 => rmade_any (vy := v1) (vn := v2) (yes := l) (no := [r]) hf (fit_one fr) (by simp; omega) W H1 H2)
  have F0 := four_new w r 36
  have B0 := below_alloc w (.cells #[.int .u64 (hi r.1 : Nat), .int .u64 (lo r.1 : Nat), .int .u64 (hi r.2 : Nat), .int .u64 (lo r.2 : Nat)] 36)
  have L0 := hide (hv.step B0)
  obtain ⟨p, c, rfl⟩ := lst_len hv
  clear hv
  cases e1 : soundL l with
  | false =>
    rw [e1] at SB
    clear e1
    go_enter Tryz.func41, Tryz.ntmps41
    go_wp2_with fail
    refine (SB.out _ L0.out).mono ?_
    rintro e w1 ⟨rfl, hb1⟩
    go_wp2
    go_ret2
    exact ⟨_, rfl, chain B0 hb1, lst_nil _⟩
  | true =>
    have SP := hide (sound_snd.1 e1)
    rw [e1] at SB
    clear e1
    go_enter Tryz.func41, Tryz.ntmps41
    go_wp2_with fail
    refine (SB.out _ L0.out).mono ?_
    rintro e w1 ⟨rfl, hb1⟩
    have F1 := F0.step hb1
    have B1 := chain B0 hb1
    have L1 := hide (L0.out.step hb1)
    clear F0 B0 hb1 L0
    obtain ⟨z0, ⟨z1, z2, z3, z4⟩, _⟩ := id F1
    go_wp2_with fail
    clear z0 z1 z2 z3 z4
    refine (LE.out _).mono ?_
    rintro e w2 ⟨rfl, hb2⟩
    have F2 := F1.step hb2
    have B2 := chain B1 hb2
    have L2 := hide (L1.out.step hb2)
    clear F1 B1 hb2 L1 LE
    cases e2 : okR r with
    | false =>
      clear F2
      go_wp2
      go_ret2
      rw [e2]
      exact ⟨_, rfl, B2, lst_nil _⟩
    | true =>
      have MP := hide (show madeL l [r] = lessL l [r] from made_less SP.out (snd_one (by unfold okR at e2; exact of_decide_eq_true e2)) hf (fit_one fr))
      have e3 := hide e2
      clear e2
      obtain ⟨z0, ⟨z1, z2, z3, z4⟩, _⟩ := id F2
      have O3 := lst_one (four_new w2 r 36)
      have HB3 := below_alloc w2 (.cells #[.int .u64 (hi r.1 : Nat), .int .u64 (lo r.1 : Nat), .int .u64 (hi r.2 : Nat), .int .u64 (lo r.2 : Nat)] 36)
      have L3 := L2.out.step HB3
      have B3 := chain B2 HB3
      clear F2
      go_wp2_with fail
      refine (MK.out _ _ _ L3 O3).mono ?_
      rintro e w5 ⟨v5, rfl, hb5, O5⟩
      rw [MP.out] at O5
      go_wp2
      go_ret2
      rw [e3.out]
      exact ⟨v5, rfl, chain B3 hb5, own_lst O5⟩
end Go.Proofs.YtfmhpnendcikoaaGreat
