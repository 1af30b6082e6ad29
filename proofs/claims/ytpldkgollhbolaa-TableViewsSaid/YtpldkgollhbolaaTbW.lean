/-
  The contract of a table's clashes: whether a lease meets one of the table's. Condition: the lease is one of its type.
-/
import Derived.Test.YtpldkgollhbolaaTbT
namespace Go.Proofs.Ytpldkgollhbolaa
open Go.RowKit Go.Joins Go.Maps

variable {w w' V W W' : World} {t km om : Nat} {O : Nat → Prop} {v : Value} {E : List En} {L : List Ls}
abbrev FnC (f b : Nat) : Value := .func (.func f) #[] #[Pt b]
set_option maxRecDepth 100000 in
set_option maxHeartbeats 2000000 in
theorem clash1_any {g i b : Nat} {y l : Ls} (hn : NodeAt w g y i) (hb : BoxL w b l) (hy : Fits y.p) (hl : Fits l.p) : Calls Try.prog 73 #[Pt g, Pt b] w (Gives (.bool (meetL l y)) w) := by
  have N0 : KN w g i b y l w := ⟨Below.refl _ _, hn, hb⟩
  have MT := hide (fun W => meet_any l.kind hl l.n y.kind hy y.n W)
  have R : Hid (∀ W, Below w.heap.size w W → Gives (.bool (meetL l y)) w (.returned (.bool (meetS l.kind l.p l.n y.kind y.p y.n))) W) := hide (fun W h => ⟨rfl, h⟩)
  generalize meetL l y = res at *
  generalize meetS l.kind l.p l.n y.kind y.p y.n = ms at *
  obtain ⟨_, a0, a1, a2, a3, a4, a5, a6, a7, b0, b1, b2, b3, b4, b5, b6, b7⟩ := N0.all
  clear hn hb hy hl
  go_enter Try.func73, Try.ntmps73
  go_wp2_with fail
  go_region_held3 (fun W => KN w g i b y l W ∧ W.cell? ⟨g, 0, none⟩ = some (.int .i64 y.kind) ∧ W.cell? ⟨g, 1, none⟩ = some (.int .u64 (hi y.p : Nat)) ∧ W.cell? ⟨g, 2, none⟩ = some (.int .u64 (lo y.p : Nat)) ∧ W.cell? ⟨g, 3, none⟩ = some (.int .i64 y.n) ∧
    W.cell? ⟨g, 4, none⟩ = some (.int .i64 y.st) ∧ W.cell? ⟨g, 5, none⟩ = some (.string y.cl) ∧ W.cell? ⟨g, 6, none⟩ = some (.int .u32 (y.ia : Int)) ∧ W.cell? ⟨g, 7, none⟩ = some (.int .i64 y.un) ∧
    W.cell? ⟨b, 0, none⟩ = some (.int .i64 l.kind) ∧ W.cell? ⟨b, 1, none⟩ = some (.int .u64 (hi l.p : Nat)) ∧ W.cell? ⟨b, 2, none⟩ = some (.int .u64 (lo l.p : Nat)) ∧ W.cell? ⟨b, 3, none⟩ = some (.int .i64 l.n) ∧
    W.cell? ⟨b, 4, none⟩ = some (.int .i64 l.st) ∧ W.cell? ⟨b, 5, none⟩ = some (.string l.cl) ∧ W.cell? ⟨b, 6, none⟩ = some (.int .u32 (l.ia : Int)) ∧ W.cell? ⟨b, 7, none⟩ = some (.int .i64 l.un))
    (first
      | exact (N0.step (below_drew _)).all
      | exact N1.all)
    (first
      | (go_at_call 12; refine (MT.out _).mono ?_; rintro e w2 ⟨rfl, hb2⟩; have N1 := (N0.step (below_drew _)).step hb2; clear hb2))
  go_wp2
  go_ret
  exact R.out _ N1.1
def clashE (E : List En) (l : Ls) : Bool := E.any (fun e => meetL l e.2)
theorem clashE_yes {l : Ls} {k : Nat} {e : En} (h : E[k]? = some e) (hc : meetL l e.2 = true) : clashE E l = true := List.any_eq_true.2 ⟨e, List.mem_of_getElem? h, hc⟩
theorem clashE_no {l : Ls} (h : ∀ (k : Nat) (e : En), E[k]? = some e → meetL l e.2 = false) : clashE E l = false := by
  unfold clashE; rw [List.any_eq_false]
  intro e he
  obtain ⟨k, hk⟩ := List.mem_iff_getElem?.1 he
  rw [h k e hk]; simp
def idxE (E : List En) (l : Ls) (i : Int) : Prop := (clashE E l = true ∧ 0 ≤ i) ∨ (clashE E l = false ∧ i = -1)
set_option maxRecDepth 100000 in
set_option maxHeartbeats 2000000 in
theorem idxE_any (h : Ends w t km om O v E) (hf : ∀ e ∈ E, Fits e.2.p) {b : Nat} {l : Ls} (hbx : BoxL w b l) (hl : Fits l.p) :
    Calls Try.prog 82 #[v, FnC 73 b] w (fun e w' => ∃ i : Int, e = .returned (.int .i64 i) ∧ idxE E l i ∧ Below w.heap.size w w') := by
  obtain ⟨g, cap, rfl⟩ := h.frm
  have HE := hide h
  have HF := hide hf
  have HX := hide hbx
  have HL := hide hl
  have HM : E.length ≤ 9223372036854775807 := by have := h.len; omega
  clear h hf hbx hl
  go_enter Try.func82, Try.ntmps82
  go_wp2_with fail
  go_loopw [8] (fun i wr => ∃ k : Nat, k ≤ E.length ∧ i = .int .i64 (k : Nat) ∧ Hid (∀ (j : Nat) (x : En), j < k → E[j]? = some x → meetL l x.2 = false) ∧ Below w.heap.size w wr) (fun i _ => E.length - (intOf i).toNat)
  case atStart => exact ⟨0, Nat.zero_le _, rfl, hide (fun j x h => absurd h (Nat.not_lt_zero _)), Below.refl _ _⟩
  case round =>
    obtain ⟨k, hk, rfl, HG, HB⟩ := hrel
    by_cases hlt : k < E.length
    · obtain ⟨x, hx⟩ : ∃ x, E[k]? = some x := ⟨_, List.getElem?_eq_getElem hlt⟩
      have HEr := hide (HE.out.below HB)
      have c1 := HEr.out.at hx
      have W1 := hide (clash1_any (HEr.out.node _ _ hx) (HX.out.fr (Fr.ofBelow HB) (fun e => e)) (HF.out x (List.mem_of_getElem? hx)) HL.out)
      have hlt2 : (k : Int) < (E.length : Int) := by omega
      have hk0 : (0 : Int) ≤ (k : Int) := by omega
      cases hcx : meetL l x.2 with
      | false =>
        have HX2 := hide hx
        have HC := hide hcx
        rw [hcx] at W1
        clear hx hcx
        go_wp2_with fail
        refine W1.out.mono ?_
        rintro e w2 ⟨rfl, hb2⟩
        clear c1
        go_wp2
        go_roundw
        case rel =>
          refine ⟨k + 1, hlt, by go_num, hide (fun j y hj hy => ?_), HB.trans (hb2.mono HB.size)⟩
          by_cases e : j = k
          · subst e
            have e2 := HX2.out
            rw [hy] at e2
            cases e2
            exact HC.out
          · exact HG.out j y (by omega) hy
        case measure => simp [intOf]; omega
      | true =>
        have K := hide (clashE_yes hx hcx)
        rw [hcx] at W1
        clear hx hcx
        go_wp2_with fail
        refine W1.out.mono ?_
        rintro e w2 ⟨rfl, hb2⟩
        clear c1
        go_wp2
        go_ret
        exact ⟨k, rfl, Or.inl ⟨K.out, by omega⟩, HB.trans (hb2.mono HB.size)⟩
    · have K := hide (clashE_no (E := E) (l := l) (fun j x hj => HG.out j x (by have := (List.getElem?_eq_some_iff.1 hj).1; omega) hj))
      have hlt2 : ¬ (k : Int) < (E.length : Int) := by omega
      go_wp2
      go_ret
      exact ⟨-1, rfl, Or.inr ⟨K.out, rfl⟩, HB⟩
set_option maxRecDepth 100000 in
theorem containsE_any (h : Ends w t km om O v E) (hf : ∀ e ∈ E, Fits e.2.p) {b : Nat} {l : Ls} (hbx : BoxL w b l) (hl : Fits l.p) :
    Calls Try.prog 72 #[v, FnC 73 b] w (Gives (.bool (clashE E l)) w) := by
  have I := hide (idxE_any h hf hbx hl)
  clear h hf hbx hl
  go_enter Try.func72, Try.ntmps72
  go_wp2_with fail
  refine I.out.mono ?_
  rintro e w' ⟨i, rfl, hi, hb⟩
  have HI := hide hi
  clear hi
  go_wp2
  go_ret
  refine ⟨congrArg Ending.returned (bool_eq ?_), hb⟩
  rcases HI.out with ⟨h1, h2⟩ | ⟨h1, rfl⟩
  · rw [h1]; simpa using h2
  · rw [h1]; rfl
set_option maxRecDepth 100000 in
theorem clashes_any (h : IsTab w t O L) {l : Ls} (hl : l.ok) : Calls Try.prog 56 #[Pt t, Lv l] w (Gives (.bool (clashL L l)) w) := by
  obtain ⟨km, om, v, E, h, hs, hp⟩ := h
  have e : clashL L l = clashE E l := by
    unfold clashL clashE
    rw [Bool.eq_iff_iff, List.any_eq_true, List.any_eq_true]
    constructor
    · rintro ⟨y, hy, hm⟩
      obtain ⟨z, hz, rfl⟩ := List.mem_map.1 (hp.mem_iff.1 hy)
      exact ⟨z, hz, hm⟩
    · rintro ⟨z, hz, hm⟩
      exact ⟨z.2, hp.mem_iff.2 (List.mem_map.2 ⟨z, hz, rfl⟩), hm⟩
  rw [e]
  have B0 := below_alloc w (.cells (leaseC l) 36)
  have H0 := hide (h.ends.below B0)
  have C := hide (containsE_any H0.out (fun e he => (h.good.ok e.2 (List.mem_map.2 ⟨e, he, rfl⟩)).1.p) (show BoxL (w.alloc (.cells (leaseC l) 36)) w.heap.size l from heap_alloc_new w _) hl.p)
  obtain ⟨c0, c1, c2⟩ := h.ends.tabs
  have ht := lt_of_block h.ends.tab
  have HB := hide B0
  clear h hs hp e B0 hl
  generalize clashE E l = res at *
  go_enter Try.func56, Try.ntmps56
  go_wp2_with fail
  refine C.out.mono ?_
  rintro e w2 ⟨rfl, hb2⟩
  go_wp2
  go_ret
  exact ⟨rfl, chain HB.out hb2⟩
end Go.Proofs.Ytpldkgollhbolaa
