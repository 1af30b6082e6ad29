/-
  Contract of appendRest: what is left of a range without the holes is put behind a list of the call's own. Conditions: the words are words of 64 bits; at most 1000000 ranges in all; the holes lie in older memory.
-/
import Derived.Test.YtfmhpnendcikoaaGreatSpanX
import Derived.Test.YtfmhpnendcikoaaGreatSpanN
import Derived.Deep.AppendLies
namespace Go.Proofs.YtfmhpnendcikoaaGreat
open Go.RowKit Go.Joins

theorem own_keep {W w2 : World} {base n size : Nat} {e : TypeId} {v : Value} {xs : List Value} (h : W.ownsRow base e size v n xs) (hb : Below W.heap.size W w2) : w2.ownsRow base e size v n xs := by
  refine ⟨h.1, ?_⟩
  rcases h.2 with hn | ⟨g, cap, cur, h1, h2, h3, h4⟩
  · exact Or.inl hn
  · have hl : g < W.heap.size := by
      rcases Nat.lt_or_ge g W.heap.size with h' | h'
      · exact h'
      · rw [Array.getElem?_eq_none h'] at h3; cases h3
    exact Or.inr ⟨g, cap, cur, h1, h2, by rw [hb.block g hl]; exact h3, h4⟩
theorem Four.grown {g : Nat} {x : Rg} {W W' : World} {row : Option Nat} (h : Four g x W) (hg : W.grownBy W' row) (hne : some g ≠ row) : Four g x W' := by
  have hb := hg.block g h.1 hne
  have c : ∀ o, W'.cell? ⟨g, o, none⟩ = W.cell? ⟨g, o, none⟩ := fun o => World.cell?_of_block (w := W) hb
  have f : ∀ o, W'.frozen? ⟨g, o, none⟩ = W.frozen? ⟨g, o, none⟩ := fun o => World.frozen?_of_block (w := W) hb
  unfold Four
  rw [c, c, c, c, f, f, f, f]
  exact ⟨Nat.lt_of_lt_of_le h.1 hg.size, h.2⟩
/-- a row of ranges in older memory, wherever its slice points -/
def Old (base : Nat) (p : Option Go.Addr) (l : List Rg) (W : World) : Prop := ∀ (j : Nat) (x : Rg), l[j]? = some x → ∃ b o, p = some ⟨b, o, none⟩ ∧ b < base ∧ At b (o + j * 4) x W
theorem Old.keep {base : Nat} {p : Option Go.Addr} {l : List Rg} {W W' : World} (h : Old base p l W) (hb : Below base W W') : Old base p l W' := by
  intro j x hj
  obtain ⟨b, o, h1, h2, h3⟩ := h j x hj
  have c : ∀ o, W'.cell? ⟨b, o, none⟩ = W.cell? ⟨b, o, none⟩ := fun o => hb.cell (p := ⟨b, o, none⟩) h2
  refine ⟨b, o, h1, h2, ?_⟩
  unfold At
  rw [c, c, c, c]
  exact h3
/-- what appendRest gives -/
def RestGives (base : Nat) (l : List Rg) (w : World) (e : Ending) (w' : World) : Prop := ∃ v, e = .returned v ∧ Below base w w' ∧ Own w' base v l
/-- what a round of appendRest keeps -/
def HR (w : World) (base R : Nat) (v : Value) (pre : List Rg) (r : Rg) (W : World) : Prop := Below base w W ∧ Four R r W ∧ Own W base v pre ∧ v.ownBlock ≠ some R ∧ base ≤ R
theorem HR.step {w : World} {base R : Nat} {v : Value} {pre : List Rg} {r : Rg} {W w2 : World} (h : HR w base R v pre r W) (hb : Below W.heap.size W w2) : HR w base R v pre r w2 :=
  ⟨h.1.trans (hb.mono (Nat.le_trans h.2.2.2.2 (Nat.le_of_lt h.2.1.1))), h.2.1.step hb, own_keep h.2.2.1 hb, h.2.2.2.1, h.2.2.2.2⟩
theorem HR.grow {w : World} {base R : Nat} {v : Value} {pre l : List Rg} {r : Rg} {W W' : World} (h : HR w base R v pre r W) {g cap : Nat} (ho : W'.ownsRow base 36 4 (.slice (some ⟨g, 0, none⟩) (pre.length + l.length) cap) (pre.length + l.length) (cellsR pre ++ cellsR l)) (hg : W.grownBy W' v.ownBlock) (hat : v.ownBlock = some g ∨ g = W.heap.size) :
    HR w base R (.slice (some ⟨g, 0, none⟩) (pre.length + l.length) cap) (pre ++ l) r W' := by
  refine ⟨h.1.grown hg (Nat.le_trans h.2.2.2.2 (Nat.le_of_lt h.2.1.1)) (fun j hj => (h.2.2.1.lt j hj).1), h.2.1.grown hg (fun e => h.2.2.2.1 e.symm), ?_, ?_, h.2.2.2.2⟩
  · unfold Own
    rw [List.length_append, cellsR_append]
    exact ho
  · intro e
    have e2 : g = R := by simpa [Value.ownBlock] using e
    have hR := h.2.1.1
    rcases hat with e3 | e3
    · exact h.2.2.2.1 (by rw [e3, e2])
    · omega
theorem HR.put1 {w : World} {base R : Nat} {v : Value} {pre : List Rg} {r : Rg} {W : World} (h : HR w base R v pre r W) (y : Nat) : HR w base R v pre (y, r.2) ((W.setCell ⟨R, 0, none⟩ (.int .u64 (hi y : Nat))).setCell ⟨R, 1, none⟩ (.int .u64 (lo y : Nat))) := by
  have hb : ∀ g, g ≠ R → (((W.setCell ⟨R, 0, none⟩ (.int .u64 (hi y : Nat))).setCell ⟨R, 1, none⟩ (.int .u64 (lo y : Nat)))).heap[g]? = W.heap[g]? := fun g hg => by
    rw [Below.heap_setCell _ _ _ g (by dsimp only; exact hg), Below.heap_setCell _ _ _ g (by dsimp only; exact hg)]
  refine ⟨(h.1.setCell (by dsimp only; exact h.2.2.2.2) _).setCell (by dsimp only; exact h.2.2.2.2) _, h.2.1.put1 y, ⟨h.2.2.1.1, ?_⟩, h.2.2.2.1, h.2.2.2.2⟩
  rcases h.2.2.1.2 with hn | ⟨g, cap, cur, rfl, h2, h3, h4⟩
  · exact Or.inl hn
  · refine Or.inr ⟨g, cap, cur, rfl, h2, ?_, h4⟩
    rw [hb g (fun e => h.2.2.2.1 (by rw [e]; rfl))]
    exact h3
theorem row_one {g : Nat} {m : Rg} {W : World} (h : Four g m W) : RowR g 0 [m] W := ⟨h.1, fun j x hx => by
  cases j with
  | zero => simp at hx; subst hx; exact h.2.1
  | succ j => simp at hx⟩
theorem rest_nil (r : Rg) : restL r [] = [r] := by rw [restL]
theorem rest_cons (r h : Rg) (t : List Rg) : restL r (h :: t) = (if r.1 < h.1 then [(r.1, h.1 - 1)] else []) ++ (if r.2 ≤ h.2 then [] else restL (h.2 + 1, r.2) t) := by rw [restL]

set_option maxRecDepth 100000 in
set_option maxHeartbeats 2000000 in
theorem rest_any {base : Nat} {v : Value} {pre hs : List Rg} {r : Rg} {p : Option Go.Addr} {c : Nat} (fr : FitR r) (fh : FitL hs) (hn : pre.length + hs.length ≤ 900000) (w : World) (hown : Own w base v pre) (hbase : base ≤ w.heap.size) (hold : Old base p hs w) :
    Calls Tryz.prog 44 #[v, RV r, .slice p hs.length c] w (RestGives base (pre ++ restL r hs) w) := by
  obtain ⟨i0, hi0, hz0, hz1, hz2⟩ := info_parts infoR
  have H0 : HR w base w.heap.size v pre r (w.alloc (.cells #[.int .u64 (hi r.1 : Nat), .int .u64 (lo r.1 : Nat), .int .u64 (hi r.2 : Nat), .int .u64 (lo r.2 : Nat)] 36)) :=
    ⟨(Below.refl _ _).alloc hbase _, four_new _ _ _, own_keep hown (below_alloc _ _), fun e => by have := (hown.lt _ e).2; omega, hbase⟩
  go_enter Tryz.func44, Tryz.ntmps44
  go_wp2
  generalize w.heap.size = R at H0 ⊢
  go_loopw [0, 13] (fun s0 i wr => ∃ (k : Nat) (v' : Value) (pre' : List Rg) (r' : Rg), k ≤ hs.length ∧ i = .int .i64 (k : Nat) ∧ v' = s0 ∧ HR w base R v' pre' r' wr ∧ FitR r' ∧ pre'.length ≤ pre.length + k ∧ pre' ++ restL r' (hs.drop k) = pre ++ restL r hs) (fun _ i _ => hs.length - (intOf i).toNat)
  case atStart => exact ⟨0, v, pre, r, Nat.zero_le _, rfl, rfl, H0, fr, by omega, rfl⟩
  case round =>
    obtain ⟨k, v', pre', r', hk, rfl, rfl, HH, fr', hlen, heq⟩ := hrel
    clear H0
    by_cases hlt : k < hs.length
    · obtain ⟨x, hx⟩ := get_some hlt
      have fx := fit_at fh hx
      obtain ⟨b, o, rfl, hbb, x1, x2, x3, x4⟩ := (hold.keep HH.1) k x hx
      rw [drop_at' hx, rest_cons] at heq
      have CA := hide (fun W => cmp_any r'.1 x.1 W)
      have CB := hide (fun W => cmp_any x.2 r'.2 W)
      have LA := hide (cmp_lt r'.1 x.1)
      have LB := hide (cmp_ge x.2 r'.2)
      clear hx
      by_cases P : r'.1 < x.1
      · have P0 : cmpS r'.1 x.1 < 0 := by have := LA.out; rw [decide_eq_true P] at this; simpa using this
        have P1 : (cmpS r'.1 x.1 < 0) = True := by simp [P0]
        have DV := dec_val fx.1 (show 0 < x.1 by omega)
        have DC := hide (fun W => via (dec_any fx.1 W) (v' := .tuple #[A (x.1 - 1), .bool (subO x.1 1)]) (by rw [DV]))
        rw [if_pos P] at heq
        clear P1 DV P
        obtain ⟨_, ⟨z0, ⟨z1, z2, z3, z4⟩, _⟩, _⟩ := id HH
        go_wp2_with fail
        clear x1 x2 x3 x4 z0 z1 z2 z3 z4
        have HX : v'.ownBlock ≠ some wr.heap.size := fun e => by have := (HH.2.2.1.lt _ e).2; omega
        have F1 := four_new wr x 36
        have H1 := HH.step (below_alloc wr (.cells #[.int .u64 (hi x.1 : Nat), .int .u64 (lo x.1 : Nat), .int .u64 (hi x.2 : Nat), .int .u64 (lo x.2 : Nat)] 36))
        clear HH
        generalize wr.heap.size = X at F1 HX ⊢
        refine (CA.out _).mono ?_
        rintro e w1 ⟨rfl, hb1⟩
        have H2 := H1.step hb1
        have F2 := F1.step hb1
        clear hb1 H1 F1
        obtain ⟨y0, ⟨y1, y2, y3, y4⟩, _⟩ := id F2
        go_wp2_with fail
        clear y0 y1 y2 y3 y4
        refine (DC.out _).mono ?_
        rintro e w2 ⟨rfl, hb2⟩
        have H3 := H2.step hb2
        have F3 := F2.step hb2
        clear hb2 H2 F2
        have FN := four_new (w2.alloc (.cells #[.int .u64 (hi (x.1 - 1) : Nat), .int .u64 (lo (x.1 - 1) : Nat)] 31)) (r'.1, x.1 - 1) 36
        rw [World.size_alloc] at FN
        have HA := (H3.step (below_alloc w2 (.cells #[.int .u64 (hi (x.1 - 1) : Nat), .int .u64 (lo (x.1 - 1) : Nat)] 31))).step (below_alloc _ (.cells #[.int .u64 (hi r'.1 : Nat), .int .u64 (lo r'.1 : Nat), .int .u64 (hi (x.1 - 1) : Nat), .int .u64 (lo (x.1 - 1) : Nat)] 36))
        have FA := (F3.step (below_alloc w2 (.cells #[.int .u64 (hi (x.1 - 1) : Nat), .int .u64 (lo (x.1 - 1) : Nat)] 31))).step (below_alloc _ (.cells #[.int .u64 (hi r'.1 : Nat), .int .u64 (lo r'.1 : Nat), .int .u64 (hi (x.1 - 1) : Nat), .int .u64 (lo (x.1 - 1) : Nat)] 36))
        obtain ⟨_, ⟨z0, ⟨z1, z2, z3, z4⟩, _⟩, _⟩ := id H3
        go_wp2_with (at_builtin; refine wpList_append_lies _ rfl (.tmp 30) (.tmp 35) 22 rfl base 36 i0 (.agg #[.int .u64 0, .int .u64 0, .int .u64 0, .int .u64 0]) 4 32 Tryz.underlying22 hi0 hz0 hz1 hz2 rfl (by decide) _ _ _ rfl HA.2.2.1 ⟨w2.heap.size + 1, 0, none⟩ 1 1 (cellsR [(r'.1, x.1 - 1)]) rfl rfl (row_cells (row_one FN)) (cellsR_one [(r'.1, x.1 - 1)]) (by omega) ?c1 ?c2 ?c3 _ rfl ?_)
        case c1 => unfold maxLen; omega
        case c2 => omega
        case c3 => exact Nat.le_trans HA.2.2.2.2 (Nat.le_of_lt HA.2.1.1)
        intro g cap w9 ho hg hat hlt9
        clear z0 z1 z2 z3 z4 hlt9 FN
        have H5 := HA.grow (l := [(r'.1, x.1 - 1)]) ho hg (hat.imp_right (fun e => by rw [e]; simp))
        have F5 := FA.grown hg (fun e => HX e.symm)
        clear HA FA H3 F3 ho hg hat HX
        rw [← List.append_assoc] at heq
        have hlen2 : (pre' ++ [(r'.1, x.1 - 1)]).length ≤ pre.length + k + 1 := by rw [List.length_append, List.length_singleton]; omega
        clear hlen P0 CA LA DC
        generalize pre' ++ [(r'.1, x.1 - 1)] = pre2 at *
        simp only [List.length_singleton] at H5
        obtain ⟨_, ⟨z0, ⟨z1, z2, z3, z4⟩, _⟩, _⟩ := id H5
        obtain ⟨y0, ⟨y1, y2, y3, y4⟩, _⟩ := id F5
        go_wp2_with fail
        clear z0 z1 z2 z3 z4 y0 y1 y2 y3 y4
        refine (CB.out _).mono ?_
        rintro e w10 ⟨rfl, hb2⟩
        have H3 := H5.step hb2
        have F3 := F5.step hb2
        clear hb2 H5 F5
        by_cases Q : r'.2 ≤ x.2
        · have Q0 : 0 ≤ cmpS x.2 r'.2 := by have := LB.out; rw [decide_eq_true Q] at this; simpa using this
          have HE := hide (show pre2 = pre ++ restL r hs by rw [if_pos Q, List.append_nil] at heq; exact heq)
          clear heq Q
          go_wp2
          go_ret
          exact ⟨_, rfl, H3.1, HE.out ▸ H3.2.2.1⟩
        · have Q0 : ¬ 0 ≤ cmpS x.2 r'.2 := by have := LB.out; rw [decide_eq_false Q] at this; simpa using this
          have fq : Fits (x.2 + 1) := by have := fr'.2; unfold Fits at *; omega
          have NV := inc_val fx.2 (show x.2 ≠ ones by have := fr'.2; unfold Fits ones at *; omega)
          have NX := hide (fun W => via (next_any fx.2 W) (v' := .tuple #[A (x.2 + 1), .bool (addO x.2 1)]) (by rw [NV]))
          rw [if_neg Q] at heq
          have HE := hide heq
          clear heq Q NV
          obtain ⟨y0, ⟨y1, y2, y3, y4⟩, _⟩ := id F3
          go_wp2_with fail
          clear y0 y1 y2 y3 y4
          refine (NX.out _).mono ?_
          rintro e w3 ⟨rfl, hb3⟩
          have H4 := H3.step hb3
          clear hb3 H3 F3
          obtain ⟨_, ⟨z0, ⟨z1, z2, z3, z4⟩, f1, f2, f3, f4⟩, _⟩ := id H4
          go_wp2
          go_roundw
          case rel => exact ⟨k + 1, _, pre2, (x.2 + 1, r'.2), hlt, by go_num, rfl, H4.put1 (x.2 + 1), ⟨fq, fr'.2⟩, by omega, HE.out⟩
          case measure => simp [intOf]; omega
      · have P0 : ¬ cmpS r'.1 x.1 < 0 := by have := LA.out; rw [decide_eq_false P] at this; simpa using this
        rw [if_neg P, List.nil_append] at heq
        clear P
        obtain ⟨_, ⟨z0, ⟨z1, z2, z3, z4⟩, _⟩, _⟩ := id HH
        go_wp2_with fail
        clear x1 x2 x3 x4 z0 z1 z2 z3 z4
        have HX : v'.ownBlock ≠ some wr.heap.size := fun e => by have := (HH.2.2.1.lt _ e).2; omega
        have F1 := four_new wr x 36
        have H1 := HH.step (below_alloc wr (.cells #[.int .u64 (hi x.1 : Nat), .int .u64 (lo x.1 : Nat), .int .u64 (hi x.2 : Nat), .int .u64 (lo x.2 : Nat)] 36))
        clear HH
        generalize wr.heap.size = X at F1 HX ⊢
        refine (CA.out _).mono ?_
        rintro e w1 ⟨rfl, hb1⟩
        have H2 := H1.step hb1
        have F2 := F1.step hb1
        clear hb1 H1 F1
        obtain ⟨_, ⟨z0, ⟨z1, z2, z3, z4⟩, _⟩, _⟩ := id H2
        obtain ⟨y0, ⟨y1, y2, y3, y4⟩, _⟩ := id F2
        go_wp2_with fail
        clear z0 z1 z2 z3 z4 y0 y1 y2 y3 y4
        refine (CB.out _).mono ?_
        rintro e w2 ⟨rfl, hb2⟩
        have H3 := H2.step hb2
        have F3 := F2.step hb2
        clear hb2 H2 F2
        by_cases Q : r'.2 ≤ x.2
        · have Q0 : 0 ≤ cmpS x.2 r'.2 := by have := LB.out; rw [decide_eq_true Q] at this; simpa using this
          have HE := hide (show pre' = pre ++ restL r hs by rw [if_pos Q, List.append_nil] at heq; exact heq)
          clear heq Q
          go_wp2
          go_ret
          exact ⟨_, rfl, H3.1, HE.out ▸ H3.2.2.1⟩
        · have Q0 : ¬ 0 ≤ cmpS x.2 r'.2 := by have := LB.out; rw [decide_eq_false Q] at this; simpa using this
          have fq : Fits (x.2 + 1) := by have := fr'.2; unfold Fits at *; omega
          have NV := inc_val fx.2 (show x.2 ≠ ones by have := fr'.2; unfold Fits ones at *; omega)
          have NX := hide (fun W => via (next_any fx.2 W) (v' := .tuple #[A (x.2 + 1), .bool (addO x.2 1)]) (by rw [NV]))
          rw [if_neg Q] at heq
          have HE := hide heq
          clear heq Q NV
          obtain ⟨y0, ⟨y1, y2, y3, y4⟩, _⟩ := id F3
          go_wp2_with fail
          clear y0 y1 y2 y3 y4
          refine (NX.out _).mono ?_
          rintro e w3 ⟨rfl, hb3⟩
          have H4 := H3.step hb3
          clear hb3 H3 F3
          obtain ⟨_, ⟨z0, ⟨z1, z2, z3, z4⟩, f1, f2, f3, f4⟩, _⟩ := id H4
          go_wp2
          go_roundw
          case rel => exact ⟨k + 1, v', pre', (x.2 + 1, r'.2), hlt, by go_num, rfl, H4.put1 (x.2 + 1), ⟨fq, fr'.2⟩, by omega, HE.out⟩
          case measure => simp [intOf]; omega
    · have e : hs.drop k = [] := List.drop_eq_nil_of_le (by omega)
      rw [e, rest_nil] at heq
      have HE := hide heq
      clear heq e
      have FN := four_new wr r' 36
      have HA := HH.step (below_alloc wr (.cells #[.int .u64 (hi r'.1 : Nat), .int .u64 (lo r'.1 : Nat), .int .u64 (hi r'.2 : Nat), .int .u64 (lo r'.2 : Nat)] 36))
      obtain ⟨_, ⟨z0, ⟨z1, z2, z3, z4⟩, _⟩, _⟩ := id HH
      go_wp2_with (at_builtin; refine wpList_append_lies _ rfl (.tmp 52) (.tmp 54) 22 rfl base 36 i0 (.agg #[.int .u64 0, .int .u64 0, .int .u64 0, .int .u64 0]) 4 32 Tryz.underlying22 hi0 hz0 hz1 hz2 rfl (by decide) _ _ _ rfl HA.2.2.1 ⟨wr.heap.size, 0, none⟩ 1 1 (cellsR [r']) rfl rfl (row_cells (row_one FN)) (cellsR_one [r']) (by omega) ?c1 ?c2 ?c3 _ rfl ?_)
      case c1 => unfold maxLen; omega
      case c2 => omega
      case c3 => exact Nat.le_trans HA.2.2.2.2 (Nat.le_of_lt HA.2.1.1)
      intro g cap w9 ho hg hat hlt9
      have H5 := HA.grow (l := [r']) ho hg (hat.imp_right (fun e => by rw [e]; simp))
      clear z0 z1 z2 z3 z4 FN HA HH ho hg hat hlt9
      go_wp2
      go_ret
      refine ⟨_, rfl, H5.1, ?_⟩
      rw [← HE.out]
      exact H5.2.2.1
end Go.Proofs.YtfmhpnendcikoaaGreat
