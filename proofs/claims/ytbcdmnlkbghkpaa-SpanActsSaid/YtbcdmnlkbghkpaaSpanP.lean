/-
  Contract of Put. Conditions: the words are words of 64 bits; a slice has at most 100000 ranges.
-/
import Derived.Test.YtbcdmnlkbghkpaaSpanG
import Derived.Test.YtbcdmnlkbghkpaaSpanX
import Derived.Deep.RegionHeld3
import Derived.Deep.DeepCutAuto
namespace Go.Proofs.Ytbcdmnlkbghkpaa
open Go.RowKit Go.Joins

/-- what Put keeps -/
def HP (w : World) (v : Value) (l : List Rg) (r : Rg) (W : World) : Prop := Below w.heap.size w W ∧ Four w.heap.size r W ∧ Lst v l W
theorem HP.step {w : World} {v : Value} {l : List Rg} {r : Rg} {W w2 : World} (h : HP w v l r W) (hb : Below W.heap.size W w2) : HP w v l r w2 := ⟨h.1.trans (hb.mono h.1.size), h.2.1.step hb, h.2.2.step hb⟩
theorem HP.drew {w : World} {v : Value} {l : List Rg} {r : Rg} {W : World} (h : HP w v l r W) : HP w v l r W.drew := h.step (below_drew W)
theorem HP.alloc {w : World} {v : Value} {l : List Rg} {r : Rg} {W : World} (h : HP w v l r W) (o : Obj) : HP w v l r (W.alloc o) := h.step (below_alloc W o)
theorem hp_new (w : World) {v : Value} {l : List Rg} (r : Rg) (hl : Lst v l w) : HP w v l r (w.alloc (.cells #[.int .u64 (hi r.1 : Nat), .int .u64 (lo r.1 : Nat), .int .u64 (hi r.2 : Nat), .int .u64 (lo r.2 : Nat)] 27)) := ⟨below_alloc _ _, four_new _ _ _, hl.step (below_alloc _ _)⟩
/-- what the two regions that merge keep -/
theorem hp_all {w : World} {b o c : Nat} {l : List Rg} {r x : Rg} {k : Nat} (hx : l[k]? = some x) {W : World} (h : HP w (.slice (some ⟨b, o, none⟩) l.length c) l r W) :
    HP w (.slice (some ⟨b, o, none⟩) l.length c) l r W ∧ (W.cell? ⟨w.heap.size, 0, none⟩ = some (.int .u64 (hi r.1 : Nat)) ∧ W.cell? ⟨w.heap.size, 1, none⟩ = some (.int .u64 (lo r.1 : Nat)) ∧ W.cell? ⟨w.heap.size, 2, none⟩ = some (.int .u64 (hi r.2 : Nat)) ∧ W.cell? ⟨w.heap.size, 3, none⟩ = some (.int .u64 (lo r.2 : Nat)))∧ (W.frozen? ⟨w.heap.size, 0, none⟩ = false ∧ W.frozen? ⟨w.heap.size, 1, none⟩ = false ∧ W.frozen? ⟨w.heap.size, 2, none⟩ = false ∧ W.frozen? ⟨w.heap.size, 3, none⟩ = false) ∧
      W.cell? ⟨b, o + k * 4, none⟩ = some (.int .u64 (hi x.1 : Nat)) ∧ W.cell? ⟨b, o + k * 4 + 1, none⟩ = some (.int .u64 (lo x.1 : Nat)) ∧ W.cell? ⟨b, o + k * 4 + 2, none⟩ = some (.int .u64 (hi x.2 : Nat)) ∧ W.cell? ⟨b, o + k * 4 + 3, none⟩ = some (.int .u64 (lo x.2 : Nat)) := by
  refine ⟨h, h.2.1.2.1, h.2.1.2.2, ?_⟩
  rcases h.2.2 with ⟨p, c', hv, rfl, _⟩ | ⟨b', o', c', hv, hr, _⟩
  · simp at hx
  · cases hv
    exact hr.2 k x hx
theorem lst_set {b o c : Nat} {l : List Rg} {n : Nat} {W : World} (h : Lst (.slice (some ⟨b, o, none⟩) n c) l W) {p : Go.Addr} (hp : b ≠ p.block) (u : Value) : Lst (.slice (some ⟨b, o, none⟩) n c) l (W.setCell p u) := by
  rcases h with h | ⟨b', o', c', hv, hr, h⟩
  · exact Or.inl h
  · have hv' := hv
    cases hv'
    exact Or.inr ⟨b, o, c, rfl, hr.set hp u, h⟩
theorem HP.put1 {w : World} {b o c n : Nat} {l : List Rg} {r : Rg} {W : World} (hb : b < w.heap.size) (h : HP w (.slice (some ⟨b, o, none⟩) n c) l r W) (y : Nat) : HP w (.slice (some ⟨b, o, none⟩) n c) l (y, r.2) ((W.setCell ⟨w.heap.size, 0, none⟩ (.int .u64 (hi y : Nat))).setCell ⟨w.heap.size, 1, none⟩ (.int .u64 (lo y : Nat))) :=
  ⟨(h.1.setCell (by dsimp only; omega) _).setCell (by dsimp only; omega) _, h.2.1.put1 y, lst_set (lst_set h.2.2 (by dsimp only; omega) _) (by dsimp only; omega) _⟩
theorem HP.put2 {w : World} {b o c n : Nat} {l : List Rg} {r : Rg} {W : World} (hb : b < w.heap.size) (h : HP w (.slice (some ⟨b, o, none⟩) n c) l r W) (y : Nat) : HP w (.slice (some ⟨b, o, none⟩) n c) l (r.1, y) ((W.setCell ⟨w.heap.size, 2, none⟩ (.int .u64 (hi y : Nat))).setCell ⟨w.heap.size, 3, none⟩ (.int .u64 (lo y : Nat))) :=
  ⟨(h.1.setCell (by dsimp only; omega) _).setCell (by dsimp only; omega) _, h.2.1.put2 y, lst_set (lst_set h.2.2 (by dsimp only; omega) _) (by dsimp only; omega) _⟩
theorem four_later {V : World} {t : TypeId} (a b : Nat) : Four V.heap.size (a, b) (V.alloc (.cells #[.int .u64 (hi a : Nat), .int .u64 (lo a : Nat), .int .u64 (hi b : Nat), .int .u64 (lo b : Nat)] t)).drew := (four_new V (a, b) t).step (below_drew _)
/-- what Put gives: a list of the call's own, and no error -/
def PutGives (l : List Rg) (w : World) (e : Ending) (w' : World) : Prop := ∃ v, e = .returned (.tuple #[v, .int .i64 0]) ∧ Below w.heap.size w w' ∧ Own w' w.heap.size v l
theorem midR_lt {l : List Rg} {r x y : Rg} {f t : Nat} (h : f < t) (hx : l[f]? = some x) (hy : l[t - 1]? = some y) : midR l r f t = (min r.1 x.1, max r.2 y.2) := by unfold midR; rw [if_pos h, getD_some hx, getD_some hy]
theorem midR_ge {l : List Rg} {r : Rg} {f t : Nat} (h : ¬ f < t) : midR l r f t = r := by unfold midR; rw [if_neg h]

theorem lst_take {b o c n f : Nat} {l : List Rg} {W : World} (h : Lst (.slice (some ⟨b, o, none⟩) n c) l W) (hf : f ≤ l.length) : Lst (.slice (some ⟨b, o, none⟩) f c) (l.take f) W := by
  rcases Nat.eq_zero_or_pos f with rfl | hp
  · rcases h with ⟨p, c', hv, _, _, hb⟩ | ⟨b', o', c', hv, _, _, _, hb⟩
    · cases hv; exact Or.inl ⟨_, _, rfl, by simp, fun e => (by cases e), hb⟩
    · cases hv; exact Or.inl ⟨_, _, rfl, by simp, fun e => (by cases e), hb⟩
  · rcases h with ⟨p, c', hv, rfl, _⟩ | ⟨b', o', c', hv, hr, hc, hne, hb⟩
    · simp at hf; omega
    · cases hv
      have hlen : (l.take f).length = f := by rw [List.length_take]; omega
      refine Or.inr ⟨b, o, c, by rw [hlen], ⟨hr.1, fun j x hx => ?_⟩, by omega, fun e => by rw [e] at hlen; simp at hlen; omega, hb⟩
      rw [List.getElem?_take] at hx
      split at hx
      · exact hr.2 j x hx
      · cases hx
theorem lst_drop {b o c n t : Nat} {l : List Rg} {W : World} (h : Lst (.slice (some ⟨b, o, none⟩) n c) l W) (_ht : t ≤ l.length) : Lst (.slice (some ⟨b, o + t * 4, none⟩) (l.length - t) (c - t)) (l.drop t) W := by
  have hlen : (l.drop t).length = l.length - t := List.length_drop
  by_cases hd : l.drop t = []
  · rw [hd] at hlen
    simp at hlen
    rcases h with ⟨p, c', hv, _, _, hb⟩ | ⟨b', o', c', hv, _, _, _, hb⟩
    · cases hv; exact Or.inl ⟨_, _, by rw [← hlen], hd, fun e => (by cases e), by omega⟩
    · cases hv; exact Or.inl ⟨_, _, by rw [← hlen], hd, fun e => (by cases e), by omega⟩
  · rcases h with ⟨p, c', hv, rfl, _⟩ | ⟨b', o', c', hv, hr, hc, hne, hb⟩
    · simp at hd
    · cases hv
      refine Or.inr ⟨b, o + t * 4, c - t, by rw [hlen], ⟨hr.1, fun j x hx => ?_⟩, by omega, hd, by omega⟩
      rw [List.getElem?_drop] at hx
      have := hr.2 (t + j) x hx
      rwa [show o + (t + j) * 4 = o + t * 4 + j * 4 by omega] at this
theorem lst_end {b o n t : Nat} {l : List Rg} {W : World} (h : Lst (.slice (some ⟨b, o, none⟩) n t) l W) : Lst (.slice (some ⟨b, o, none⟩) 0 0) (l.drop t) W := by
  have hle : l.length ≤ t := by
    rcases h with ⟨p, c', hv, rfl, _⟩ | ⟨b', o', c', hv, hr, hc, hne, hb⟩
    · simp
    · cases hv; omega
  exact Or.inl ⟨_, _, rfl, List.drop_eq_nil_of_le hle, fun e => (by cases e), by omega⟩
theorem lst_one {g : Nat} {m : Rg} {W : World} (h : Four g m W) : Lst (.slice (some ⟨g, 0, none⟩) 1 1) [m] W := by
  refine Or.inr ⟨g, 0, 1, rfl, ⟨h.1, fun j x hx => ?_⟩, by simp, by simp, by omega⟩
  cases j with
  | zero => simp at hx; subst hx; exact h.2.1
  | succ j => simp at hx
theorem parts_new {wc : World} {v0 v2 : Value} {l0 l2 : List Rg} {m : Rg} {t1 t2 : TypeId} (h0 : Lst v0 l0 wc) (h2 : Lst v2 l2 wc) :
    Parts (wc.heap.size + 1) [v0, .slice (some ⟨wc.heap.size, 0, none⟩) 1 1, v2] [l0, [m], l2] ((wc.alloc (.cells #[.int .u64 (hi m.1 : Nat), .int .u64 (lo m.1 : Nat), .int .u64 (hi m.2 : Nat), .int .u64 (lo m.2 : Nat)] t1)).alloc (.cells #[v0, .slice (some ⟨wc.heap.size, 0, none⟩) 1 1, v2] t2)) := by
  have h1 := lst_one (four_new wc m t1)
  have hb : Below wc.heap.size wc (wc.alloc (.cells #[.int .u64 (hi m.1 : Nat), .int .u64 (lo m.1 : Nat), .int .u64 (hi m.2 : Nat), .int .u64 (lo m.2 : Nat)] t1)) := below_alloc _ _
  have hs : (wc.alloc (.cells #[.int .u64 (hi m.1 : Nat), .int .u64 (lo m.1 : Nat), .int .u64 (hi m.2 : Nat), .int .u64 (lo m.2 : Nat)] t1)).heap.size = wc.heap.size + 1 := by simp
  generalize wc.alloc (.cells #[.int .u64 (hi m.1 : Nat), .int .u64 (lo m.1 : Nat), .int .u64 (hi m.2 : Nat), .int .u64 (lo m.2 : Nat)] t1) = V at h1 hb hs ⊢
  rw [← hs]
  refine ⟨by simp, rfl, fun j v hj => ?_, fun j v l hv hl => ?_⟩
  · match j, hj with
    | 0, hj => simp at hj; subst hj; simp [go_sem]
    | 1, hj => simp at hj; subst hj; simp [go_sem]
    | 2, hj => simp at hj; subst hj; simp [go_sem]
    | j + 3, hj => simp at hj
  · match j, hv, hl with
    | 0, hv, hl => simp at hv hl; subst hv hl; exact (h0.step hb).step (below_alloc _ _)
    | 1, hv, hl => simp at hv hl; subst hv hl; exact h1.step (below_alloc _ _)
    | 2, hv, hl => simp at hv hl; subst hv hl; exact (h2.step hb).step (below_alloc _ _)
    | j + 3, hv, hl => simp at hv
theorem own_base {W : World} {base base' : Nat} {v : Value} {l : List Rg} (h : Own W base v l) (hb : base' ≤ base) : Own W base' v l := by
  refine ⟨h.1, ?_⟩
  rcases h.2 with hn | ⟨g, cap, cur, h1, h2, h3⟩
  · exact Or.inl hn
  · exact Or.inr ⟨g, cap, cur, h1, Nat.le_trans hb h2, h3⟩

set_option maxRecDepth 100000 in
set_option maxHeartbeats 1000000 in
theorem put_some {b o c : Nat} {l : List Rg} {r : Rg} (hf : FitL l) (fr : FitR r) (hs : soundL l = true) (hr : okR r = true) (hl : l.length ≤ 100000) (w : World) (hrow : RowR b o l w) (hc : l.length ≤ c) (hcb : c ≤ 9223372036854775807) (hne : l ≠ []) :
    Calls Try.prog 11 #[.slice (some ⟨b, o, none⟩) l.length c, RV r] w (PutGives (putL l r) w) := by
  have hl2 : l.length ≤ 1000000 := by omega
  have hL : Lst (.slice (some ⟨b, o, none⟩) l.length c) l w := Or.inr ⟨b, o, c, rfl, hrow, hc, hne, hcb⟩
  have SB := hide (fun W H => via (sound_any (v := .slice (some ⟨b, o, none⟩) l.length c) hf hl2 W H) (v' := .bool true) (by rw [hs]))
  have IR := hide (fun W => via (isRange_any r W) (v' := .bool true) (by rw [hr]))
  have WD := hide (fun W => wider_any fr W)
  have MT := hide (fun W H => meeting_any (v := .slice (some ⟨b, o, none⟩) l.length c) (r := (r.1 - 1, whi r.2)) (sound_snd.1 hs) hl2 W H)
  have H0 := hp_new w r hL
  have bw := hrow.1
  have B2 := to_le l (whi r.2)
  have FT0 : fromS l (r.1 - 1) ≤ toS l (whi r.2) := from_to (sound_snd.1 hs) (by have : r.1 ≤ r.2 := (by simpa [okR] using hr); unfold whi; split <;> omega)
  have PE := hide (show putL l r = l.take (fromS l (r.1 - 1)) ++ midR l r (fromS l (r.1 - 1)) (toS l (whi r.2)) :: l.drop (toS l (whi r.2)) from rfl)
  generalize fromS l (r.1 - 1) = f at MT FT0 PE
  generalize toS l (whi r.2) = t at MT B2 FT0 PE
  go_enter Try.func11, Try.ntmps11
  go_wp2_with fail
  refine (SB.out _ H0.2.2).mono ?_
  rintro e w1 ⟨rfl, hb1⟩
  have H1 := H0.step hb1
  clear hb1 H0
  obtain ⟨_, ⟨z0, ⟨z1, z2, z3, z4⟩, _⟩, _⟩ := id H1
  go_wp2_with fail
  clear z0 z1 z2 z3 z4
  refine (IR.out _).mono ?_
  rintro e w2 ⟨rfl, hb2⟩
  have H2 := H1.step hb2
  clear hb2 H1
  obtain ⟨_, ⟨z0, ⟨z1, z2, z3, z4⟩, _⟩, _⟩ := id H2
  go_wp2_with fail
  clear z0 z1 z2 z3 z4
  refine (WD.out _).mono ?_
  rintro e w3 ⟨rfl, hb3⟩
  have H3 := H2.step hb3
  clear hb3 H2
  go_wp2_with fail
  refine (MT.out _ H3.2.2).mono ?_
  rintro e w4 ⟨rfl, hb4⟩
  have H4 := H3.step hb4
  clear hb4 H3 SB IR WD MT
  go_upto_if 25 with fail
  go_cut [] (fun wx => HP w (.slice (some ⟨b, o, none⟩) l.length c) l (midR l r f t) wx)
  case first =>
    by_cases hft : f < t
    · obtain ⟨x, hx⟩ := get_some (show f < l.length by omega)
      obtain ⟨y, hy⟩ := get_some (show t - 1 < l.length by omega)
      have MR := hide (midR_lt (r := r) hft hx hy)
      go_wp2_with fail
      have FK : (f : Int) < (l.length : Int) := by omega
      obtain ⟨_, ⟨z1, z2, z3, z4⟩, ⟨f1, f2, f3, f4⟩, y1, y2, y3, y4⟩ := hp_all hx H4
      have ZR := H4.2.1.1
      go_region_with ((go_at_call 37; refine (min_any _ (by first | exact four_later r.1 x.1 | exact four_new _ (r.1, x.1) _)).mono ?_; rintro e w5 ⟨rfl, hb5⟩; have H5 : HP w (.slice (some ⟨b, o, none⟩) l.length c) l r w5 := (by first | exact HP.step (H4.drew.alloc _) hb5 | exact HP.step (H4.alloc _).drew hb5); clear hb5; obtain ⟨_, _, ⟨g1, g2, g3, g4⟩, _⟩ := hp_all hx H5))
      all_goals
        clear z1 z2 z3 z4 f1 f2 f3 f4 y1 y2 y3 y4
        have H6 := H5.put1 bw (min r.1 x.1)
        clear H5 H4 g1 g2 g3 g4 ZR
        generalize hm1 : min r.1 x.1 = m1 at H6 ⊢
        have HM1 := hide hm1
        clear hm1
        go_wp2_with fail
        generalize (w5.setCell ⟨w.heap.size, 0, none⟩ (.int .u64 (hi m1 : Nat))).setCell ⟨w.heap.size, 1, none⟩ (.int .u64 (lo m1 : Nat)) = w6 at H6 ⊢
        clear FK
        have FT : (t : Int) - 1 < (l.length : Int) := by omega
        have B0 : 0 ≤ (t : Int) - 1 := by omega
        have B1 : 1 ≤ t := by omega
        have WS : IntKind.i64.wrap ((t : Int) - 1) = (t : Int) - 1 := IntWalk.i64_in _ ⟨by omega, by omega⟩
        have BN : ((t : Int) - 1).toNat = t - 1 := by omega
        obtain ⟨_, ⟨z1, z2, z3, z4⟩, ⟨f1, f2, f3, f4⟩, y1, y2, y3, y4⟩ := hp_all hy H6
        have ZR := H6.2.1.1
        go_region_with ((go_at_call 38; refine (max_any _ (by first | exact four_later r.2 y.2 | exact four_new _ (r.2, y.2) _)).mono ?_; rintro e w7 ⟨rfl, hb7⟩; have H7 : HP w (.slice (some ⟨b, o, none⟩) l.length c) l (m1, r.2) w7 := (by first | exact HP.step (H6.drew.alloc _) hb7 | exact HP.step (H6.alloc _).drew hb7); clear hb7; obtain ⟨_, _, ⟨g1, g2, g3, g4⟩, _⟩ := hp_all hy H7))
        all_goals
          clear z1 z2 z3 z4 f1 f2 f3 f4 y1 y2 y3 y4
          have H8 := H7.put2 bw (max r.2 y.2)
          clear H7 H6 g1 g2 g3 g4 ZR FT B0 WS BN
          go_wp2_with fail
          go_meet
          rw [MR.out, HM1.out]
          exact H8
    · have MR := hide (midR_ge (l := l) (r := r) hft)
      go_wp2_with fail
      go_meet
      rw [MR.out]
      exact H4
  case rest =>
    clear H4
    generalize midR l r f t = m at PE hcut
    have CN := hide (fun (W : World) (g : Nat) (v0 v1 v2 : Value) (H : Parts g [v0, v1, v2] [l.take f, [m], l.drop t] W) => concat_any (N := 3) rfl (by omega) (by simp [sumLen]; omega) (by simp [sumLen]; omega) W H)
    obtain ⟨HB, ⟨z0, ⟨z1, z2, z3, z4⟩, _⟩, HL⟩ := id hcut
    have F1 : (f : Int) ≤ (c : Int) := by omega
    have F2 : (t : Int) ≤ (l.length : Int) := by omega
    have F3 : (t : Int) ≤ (c : Int) := by omega
    have B1 : f ≤ l.length := by omega
    by_cases hct : c = t
    · subst hct
      have PN := hide (parts_new (wc := wc) (m := m) (t1 := 27) (t2 := 22) (lst_take HL B1) (lst_end HL))
      have HS := HB.size
      go_wp2_with fail
      go_region_with ((go_at_call 39; refine (CN.out _ _ _ _ _ (by first | exact PN.out.step (below_drew _) | exact PN.out)).mono ?_; rintro e w9 ⟨v9, rfl, hb9, hown⟩))
      all_goals
        have HB9 := chain (chain (chain (chain HB (below_alloc wc (.cells #[.int .u64 (hi m.1 : Nat), .int .u64 (lo m.1 : Nat), .int .u64 (hi m.2 : Nat), .int .u64 (lo m.2 : Nat)] 27))) (below_alloc _ _)) (below_drew _)) hb9
        have HO := own_base (base' := w.heap.size) hown (by simp; omega)
        go_wp2
        go_ret2
        refine ⟨_, rfl, HB9, ?_⟩
        rw [PE.out]
        have e : [l.take f, [m], l.drop c].flatten = l.take f ++ m :: l.drop c := by simp
        rw [← e]
        exact HO
    · have PN := hide (parts_new (wc := wc) (m := m) (t1 := 27) (t2 := 22) (lst_take HL B1) (lst_drop HL B2))
      have HS := HB.size
      go_wp2_with fail
      go_region_with ((go_at_call 39; refine (CN.out _ _ _ _ _ (by first | exact PN.out.step (below_drew _) | exact PN.out)).mono ?_; rintro e w9 ⟨v9, rfl, hb9, hown⟩))
      all_goals
        have HB9 := chain (chain (chain (chain HB (below_alloc wc (.cells #[.int .u64 (hi m.1 : Nat), .int .u64 (lo m.1 : Nat), .int .u64 (hi m.2 : Nat), .int .u64 (lo m.2 : Nat)] 27))) (below_alloc _ _)) (below_drew _)) hb9
        have HO := own_base (base' := w.heap.size) hown (by simp; omega)
        go_wp2
        go_ret2
        refine ⟨_, rfl, HB9, ?_⟩
        rw [PE.out]
        have e : [l.take f, [m], l.drop t].flatten = l.take f ++ m :: l.drop t := by simp
        rw [← e]
        exact HO

/-- the box of Put's range, no list at hand -/
theorem put_nil {r : Rg} : putL [] r = [r] := by unfold putL midR fromS toS; simp
set_option maxRecDepth 100000 in
set_option maxHeartbeats 1000000 in
theorem put_none {p : Option Go.Addr} {c : Nat} {r : Rg} (fr : FitR r) (hr : okR r = true) (hpc : p = none → c = 0) (hcb : c ≤ 9223372036854775807) (w : World) :
    Calls Try.prog 11 #[.slice p 0 c, RV r] w (PutGives [r] w) := by
  have IR := hide (fun W => via (isRange_any r W) (v' := .bool true) (by rw [hr]))
  have WD := hide (fun W => wider_any fr W)
  have SB := hide (fun W => sound_none p c W)
  have MT := hide (fun W => meeting_none p c (r.1 - 1, whi r.2) W)
  have CN := hide (fun (W : World) (g : Nat) (v0 v1 v2 : Value) (H : Parts g [v0, v1, v2] [[], [r], []] W) => concat_any (N := 3) rfl (by omega) (by simp [sumLen]) (by simp [sumLen]) W H)
  have HL : ∀ W, Lst (.slice p 0 c) [] W := fun W => Or.inl ⟨p, c, rfl, rfl, hpc, hcb⟩
  have H0 := hp_new w r (HL w)
  go_enter Try.func11, Try.ntmps11
  go_wp2_with fail
  refine (SB.out _).mono ?_
  rintro e w1 ⟨rfl, hb1⟩
  have H1 := H0.step hb1
  clear hb1 H0
  obtain ⟨_, ⟨z0, ⟨z1, z2, z3, z4⟩, _⟩, _⟩ := id H1
  go_wp2_with fail
  clear z0 z1 z2 z3 z4
  refine (IR.out _).mono ?_
  rintro e w2 ⟨rfl, hb2⟩
  have H2 := H1.step hb2
  clear hb2 H1
  obtain ⟨_, ⟨z0, ⟨z1, z2, z3, z4⟩, _⟩, _⟩ := id H2
  go_wp2_with fail
  clear z0 z1 z2 z3 z4
  refine (WD.out _).mono ?_
  rintro e w3 ⟨rfl, hb3⟩
  have H3 := H2.step hb3
  clear hb3 H2
  go_wp2_with fail
  refine (MT.out _).mono ?_
  rintro e wc ⟨rfl, hb4⟩
  have H4 := H3.step hb4
  clear hb4 H3
  have PN := hide (parts_new (wc := wc) (m := r) (t1 := 27) (t2 := 22) (HL wc) (HL wc))
  obtain ⟨HB, ⟨z0, ⟨z1, z2, z3, z4⟩, _⟩, _⟩ := id H4
  clear H4
  have HS := HB.size
  clear HL
  cases p with
  | none =>
    obtain rfl := hpc rfl
    go_wp2_with fail
    go_region_with ((go_at_call 39; refine (CN.out _ _ _ _ _ (by first | exact PN.out.step (below_drew _) | exact PN.out)).mono ?_; rintro e w9 ⟨v9, rfl, hb9, hown⟩))
    all_goals
      have HB9 := chain (chain (chain (chain HB (below_alloc wc (.cells #[.int .u64 (hi r.1 : Nat), .int .u64 (lo r.1 : Nat), .int .u64 (hi r.2 : Nat), .int .u64 (lo r.2 : Nat)] 27))) (below_alloc _ _)) (below_drew _)) hb9
      have HO := own_base (base' := w.heap.size) hown (by simp; omega)
      go_wp2
      go_ret2
      exact ⟨_, rfl, HB9, HO⟩
  | some ad =>
    go_wp2_with fail
    go_region_with ((go_at_call 39; refine (CN.out _ _ _ _ _ (by first | exact PN.out.step (below_drew _) | exact PN.out)).mono ?_; rintro e w9 ⟨v9, rfl, hb9, hown⟩))
    all_goals
      have HB9 := chain (chain (chain (chain HB (below_alloc wc (.cells #[.int .u64 (hi r.1 : Nat), .int .u64 (lo r.1 : Nat), .int .u64 (hi r.2 : Nat), .int .u64 (lo r.2 : Nat)] 27))) (below_alloc _ _)) (below_drew _)) hb9
      have HO := own_base (base' := w.heap.size) hown (by simp; omega)
      go_wp2
      go_ret2
      exact ⟨_, rfl, HB9, HO⟩
set_option maxRecDepth 100000 in
set_option maxHeartbeats 1000000 in
theorem put_bad {v : Value} {l : List Rg} {r : Rg} (hf : FitL l) (hl : l.length ≤ 100000) (hbad : soundL l = false ∨ okR r = false) (w : World) (hL : Lst v l w) :
    Calls Try.prog 11 #[v, RV r] w (Gives (.tuple #[.slice none 0 0, .int .i64 1]) w) := by
  obtain ⟨p, c, hv⟩ := lst_len hL
  have H0 := hp_new w r hL
  have SB := hide (fun W H => sound_any (v := v) hf (by omega) W H)
  subst hv
  cases e1 : soundL l with
  | false =>
    rw [e1] at SB
    go_enter Try.func11, Try.ntmps11
    go_wp2_with fail
    refine (SB.out _ H0.2.2).mono ?_
    rintro e w1 ⟨rfl, hb1⟩
    have H1 := H0.step hb1
    clear hb1 H0
    go_wp2
    go_ret2
    exact ⟨rfl, H1.1⟩
  | true =>
    have hr : okR r = false := hbad.elim (fun e => by rw [e1] at e; cases e) id
    have IR := hide (fun W => via (isRange_any r W) (v' := .bool false) (by rw [hr]))
    rw [e1] at SB
    clear hr hbad e1
    go_enter Try.func11, Try.ntmps11
    go_wp2_with fail
    refine (SB.out _ H0.2.2).mono ?_
    rintro e w1 ⟨rfl, hb1⟩
    have H1 := H0.step hb1
    clear hb1 H0
    obtain ⟨_, ⟨z0, ⟨z1, z2, z3, z4⟩, _⟩, _⟩ := id H1
    go_wp2_with fail
    clear z0 z1 z2 z3 z4
    refine (IR.out _).mono ?_
    rintro e w2 ⟨rfl, hb2⟩
    have H2 := H1.step hb2
    clear hb2 H1
    go_wp2
    go_ret2
    exact ⟨rfl, H2.1⟩
theorem put_any {v : Value} {l : List Rg} {r : Rg} (hf : FitL l) (fr : FitR r) (hs : soundL l = true) (hr : okR r = true) (hl : l.length ≤ 100000) (w : World) (h : Lst v l w) :
    Calls Try.prog 11 #[v, RV r] w (PutGives (putL l r) w) := by
  rcases h with ⟨p, c, rfl, rfl, hpc, hb⟩ | ⟨b, o, c, rfl, hrow, hc, hne, hcb⟩
  · rw [put_nil]
    exact put_none fr hr hpc hb w
  · exact put_some hf fr hs hr hl w hrow hc hcb hne
end Go.Proofs.Ytbcdmnlkbghkpaa
