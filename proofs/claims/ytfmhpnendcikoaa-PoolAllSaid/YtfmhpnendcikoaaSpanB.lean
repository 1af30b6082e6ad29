/-
  Contracts of same and awake. Conditions: the words are words of 64 bits; at most 1000000 ranges in a list.
-/
import Derived.Test.YtfmhpnendcikoaaSpanW
import Derived.Test.YtfmhpnendcikoaaSpanN
namespace Go.Proofs.Ytfmhpnendcikoaa
open Go.RowKit Go.Joins

theorem words_eq {a b : Nat} (h1 : hi a = hi b) (h2 : lo a = lo b) : a = b := by unfold hi lo at *; omega
theorem range_eq {x y : Rg} (h1 : hi x.1 = hi y.1) (h2 : lo x.1 = lo y.1) (h3 : hi x.2 = hi y.2) (h4 : lo x.2 = lo y.2) : x = y := Prod.ext (words_eq h1 h2) (words_eq h3 h4)
theorem words_ne {x y : Rg} (hxy : ¬ x = y) : (¬ hi x.1 = hi y.1) ∨ (hi x.1 = hi y.1 ∧ ¬ lo x.1 = lo y.1) ∨ (hi x.1 = hi y.1 ∧ lo x.1 = lo y.1 ∧ ¬ hi x.2 = hi y.2) ∨ (hi x.1 = hi y.1 ∧ lo x.1 = lo y.1 ∧ hi x.2 = hi y.2 ∧ ¬ lo x.2 = lo y.2) := by
  by_cases h1 : hi x.1 = hi y.1
  · by_cases h2 : lo x.1 = lo y.1
    · by_cases h3 : hi x.2 = hi y.2
      · by_cases h4 : lo x.2 = lo y.2
        · exact absurd (range_eq h1 h2 h3 h4) hxy
        · exact Or.inr (Or.inr (Or.inr ⟨h1, h2, h3, h4⟩))
      · exact Or.inr (Or.inr (Or.inl ⟨h1, h2, h3⟩))
    · exact Or.inr (Or.inl ⟨h1, h2⟩)
  · exact Or.inl h1
/-- two rows in older memory -/
def H2R (w : World) (p q : Option Go.Addr) (l m : List Rg) (W : World) : Prop := Below w.heap.size w W ∧ Old w.heap.size p l W ∧ Old w.heap.size q m W
theorem H2R.drew {w : World} {p q : Option Go.Addr} {l m : List Rg} {W : World} (h : H2R w p q l m W) : H2R w p q l m { W with drawn := W.drawn + 1 } := by
  have hb : Below w.heap.size W { W with drawn := W.drawn + 1 } := (Below.refl _ _).drew
  exact ⟨h.1.trans hb, h.2.1.keep hb, h.2.2.keep hb⟩
theorem row_get {base : Nat} {b o : Nat} {l : List Rg} {W : World} {k : Nat} {x : Rg} (h : Old base (some ⟨b, o, none⟩) l W) (hx : l[k]? = some x) : At b (o + k * 4) x W := by
  obtain ⟨b', o', e, _, ha⟩ := h k x hx
  cases e
  exact ha
theorem take_same {l m : List Rg} {k : Nat} {x : Rg} (h : l.take k = m.take k) (hx : l[k]? = some x) (hy : m[k]? = some x) : l.take (k + 1) = m.take (k + 1) := by
  rw [List.take_add_one, List.take_add_one, h, hx, hy]

set_option maxRecDepth 100000 in
set_option maxHeartbeats 1000000 in
theorem same_any {va vb : Value} {l m : List Rg} (hl : l.length ≤ 1000000) (w : World) (ha : Lst va l w) (hb : Lst vb m w) :
    Calls Try.prog 21 #[va, vb] w (Gives (.bool (decide (l = m))) w) := by
  obtain ⟨p, c, rfl, ho⟩ := lst_old ha
  obtain ⟨q, d, rfl, hq⟩ := lst_old hb
  by_cases hlen : l.length = m.length
  · go_enter Try.func21, Try.ntmps21
    have HL := hide hlen
    have E : ((l.length : Int) != (m.length : Int)) = false := by rw [hlen]; simp
    clear hlen
    go_wp2
    go_loopw [5] (fun i wr => ∃ k : Nat, k ≤ l.length ∧ i = .int .i64 (k : Nat) ∧ H2R w p q l m wr ∧ l.take k = m.take k) (fun i _ => l.length - (intOf i).toNat)
    case atStart => exact ⟨0, Nat.zero_le _, rfl, ⟨Below.refl _ _, ho, hq⟩, by simp⟩
    case round =>
      obtain ⟨k, hk, rfl, HH, he⟩ := hrel
      have HE := hide he
      clear he E
      by_cases hlt : k < l.length
      · obtain ⟨x, hx⟩ := get_some hlt
        have hlm : k < m.length := by have := HL.out; omega
        obtain ⟨y, hy⟩ := get_some hlm
        obtain ⟨b, o, rfl, _, _⟩ := HH.2.1 k x hx
        obtain ⟨b2, o2, rfl, _, _⟩ := HH.2.2 k y hy
        have RX := hide (fun W (H : H2R w (some ⟨b, o, none⟩) (some ⟨b2, o2, none⟩) l m W) => row_get H.2.1 hx)
        have RY := hide (fun W (H : H2R w (some ⟨b, o, none⟩) (some ⟨b2, o2, none⟩) l m W) => row_get H.2.2 hy)
        by_cases hxy : x = y
        · subst hxy
          have TK := hide (take_same HE.out hx hy)
          clear hx hy
          go_wp2_with fail
          refine wp_region_quiet (C := H2R w (some ⟨b, o, none⟩) (some ⟨b2, o2, none⟩) l m) (by kernel_rfl) (by kernel_rfl) HH.drew (wpQuiet_step (fun K0 hK0 => ?_))
          go_simp
          first | (with_reducible refine hK0 _ (wpQuiet_step (fun K1 hK1 => ?_))) | (with_reducible refine ⟨_, fun _ _ => rfl, hK0 _ (wpQuiet_step (fun K1 hK1 => ?_))⟩) | (rw [if_neg (by intro e; cases e)]; with_reducible refine hK0 _ (wpQuiet_step (fun K1 hK1 => ?_)))
          clear hK0 K0
          go_simp
          first | (with_reducible refine hK1 _ (wpQuiet_step (fun K0 hK0 => ?_))) | (with_reducible refine ⟨_, fun _ _ => rfl, hK1 _ (wpQuiet_step (fun K0 hK0 => ?_))⟩) | (rw [if_neg (by intro e; cases e)]; with_reducible refine hK1 _ (wpQuiet_step (fun K0 hK0 => ?_)))
          clear hK1 K1
          go_simp
          first | (with_reducible refine hK0 _ (wpQuiet_step (fun K1 hK1 => ?_))) | (with_reducible refine ⟨_, fun _ _ => rfl, hK0 _ (wpQuiet_step (fun K1 hK1 => ?_))⟩) | (rw [if_neg (by intro e; cases e)]; with_reducible refine hK0 _ (wpQuiet_step (fun K1 hK1 => ?_)))
          clear hK0 K0
          go_simp
          refine ⟨RV x, fun W hW => ?_, hK1 _ (wpQuiet_step (fun K0 hK0 => ?_))⟩
          · ((obtain ⟨u0, u1, u2, u3⟩ := RX.out W hW; simp [go_sem, u0, u1, u2, u3]))
          clear hK1 K1
          go_simp
          first | (with_reducible refine hK0 _ (wpQuiet_step (fun K1 hK1 => ?_))) | (with_reducible refine ⟨_, fun _ _ => rfl, hK0 _ (wpQuiet_step (fun K1 hK1 => ?_))⟩) | (rw [if_neg (by intro e; cases e)]; with_reducible refine hK0 _ (wpQuiet_step (fun K1 hK1 => ?_)))
          clear hK0 K0
          go_simp
          first | (with_reducible refine hK1 _ (wpQuiet_step (fun K0 hK0 => ?_))) | (with_reducible refine ⟨_, fun _ _ => rfl, hK1 _ (wpQuiet_step (fun K0 hK0 => ?_))⟩) | (rw [if_neg (by intro e; cases e)]; with_reducible refine hK1 _ (wpQuiet_step (fun K0 hK0 => ?_)))
          clear hK1 K1
          go_simp
          first | (with_reducible refine hK0 _ (wpQuiet_step (fun K1 hK1 => ?_))) | (with_reducible refine ⟨_, fun _ _ => rfl, hK0 _ (wpQuiet_step (fun K1 hK1 => ?_))⟩) | (rw [if_neg (by intro e; cases e)]; with_reducible refine hK0 _ (wpQuiet_step (fun K1 hK1 => ?_)))
          clear hK0 K0
          go_simp
          refine ⟨RV x, fun W hW => ?_, hK1 _ (wpQuiet_step (fun K0 hK0 => ?_))⟩
          · ((obtain ⟨u0, u1, u2, u3⟩ := RY.out W hW; simp [go_sem, u0, u1, u2, u3]))
          clear hK1 K1
          go_simp
          first | (with_reducible refine hK0 _ (wpQuiet_nil ?_)) | (with_reducible refine ⟨_, fun _ _ => rfl, hK0 _ (wpQuiet_nil ?_)⟩) | (rw [if_neg (by intro e; cases e)]; with_reducible refine hK0 _ (wpQuiet_nil ?_))
          clear hK0 K0
          intro w2 H2
          go_wp2
          go_roundw
          case rel => exact ⟨k + 1, hlt, by go_num, H2, TK.out⟩
          case measure => simp [intOf]; omega
        · have NE := hide (show l ≠ m by intro e; rw [e, hy] at hx; exact hxy (Option.some.inj hx).symm)
          clear hx hy
          have DN := hide (words_ne hxy)
          clear hxy
          go_wp2_with fail
          refine wp_region_quiet (C := H2R w (some ⟨b, o, none⟩) (some ⟨b2, o2, none⟩) l m) (by kernel_rfl) (by kernel_rfl) HH.drew (wpQuiet_step (fun K0 hK0 => ?_))
          go_simp
          first | (with_reducible refine hK0 _ (wpQuiet_step (fun K1 hK1 => ?_))) | (with_reducible refine ⟨_, fun _ _ => rfl, hK0 _ (wpQuiet_step (fun K1 hK1 => ?_))⟩) | (rw [if_neg (by intro e; cases e)]; with_reducible refine hK0 _ (wpQuiet_step (fun K1 hK1 => ?_)))
          clear hK0 K0
          go_simp
          first | (with_reducible refine hK1 _ (wpQuiet_step (fun K0 hK0 => ?_))) | (with_reducible refine ⟨_, fun _ _ => rfl, hK1 _ (wpQuiet_step (fun K0 hK0 => ?_))⟩) | (rw [if_neg (by intro e; cases e)]; with_reducible refine hK1 _ (wpQuiet_step (fun K0 hK0 => ?_)))
          clear hK1 K1
          go_simp
          first | (with_reducible refine hK0 _ (wpQuiet_step (fun K1 hK1 => ?_))) | (with_reducible refine ⟨_, fun _ _ => rfl, hK0 _ (wpQuiet_step (fun K1 hK1 => ?_))⟩) | (rw [if_neg (by intro e; cases e)]; with_reducible refine hK0 _ (wpQuiet_step (fun K1 hK1 => ?_)))
          clear hK0 K0
          go_simp
          refine ⟨RV x, fun W hW => ?_, hK1 _ (wpQuiet_step (fun K0 hK0 => ?_))⟩
          · ((obtain ⟨u0, u1, u2, u3⟩ := RX.out W hW; simp [go_sem, u0, u1, u2, u3]))
          clear hK1 K1
          go_simp
          first | (with_reducible refine hK0 _ (wpQuiet_step (fun K1 hK1 => ?_))) | (with_reducible refine ⟨_, fun _ _ => rfl, hK0 _ (wpQuiet_step (fun K1 hK1 => ?_))⟩) | (rw [if_neg (by intro e; cases e)]; with_reducible refine hK0 _ (wpQuiet_step (fun K1 hK1 => ?_)))
          clear hK0 K0
          go_simp
          first | (with_reducible refine hK1 _ (wpQuiet_step (fun K0 hK0 => ?_))) | (with_reducible refine ⟨_, fun _ _ => rfl, hK1 _ (wpQuiet_step (fun K0 hK0 => ?_))⟩) | (rw [if_neg (by intro e; cases e)]; with_reducible refine hK1 _ (wpQuiet_step (fun K0 hK0 => ?_)))
          clear hK1 K1
          go_simp
          first | (with_reducible refine hK0 _ (wpQuiet_step (fun K1 hK1 => ?_))) | (with_reducible refine ⟨_, fun _ _ => rfl, hK0 _ (wpQuiet_step (fun K1 hK1 => ?_))⟩) | (rw [if_neg (by intro e; cases e)]; with_reducible refine hK0 _ (wpQuiet_step (fun K1 hK1 => ?_)))
          clear hK0 K0
          go_simp
          refine ⟨RV y, fun W hW => ?_, hK1 _ (wpQuiet_step (fun K0 hK0 => ?_))⟩
          · ((obtain ⟨u0, u1, u2, u3⟩ := RY.out W hW; simp [go_sem, u0, u1, u2, u3]))
          clear hK1 K1
          go_simp
          refine ⟨.bool true, fun W hW => ?_, hK0 _ (wpQuiet_nil ?_)⟩
          · ((rcases DN.out with h1 | ⟨h1, h2⟩ | ⟨h1, h2, h3⟩ | ⟨h1, h2, h3, h4⟩; (rw [if_neg (by omega)]; exact ⟨rfl, rfl⟩); (rw [if_pos (by omega), if_neg (by omega)]; exact ⟨rfl, rfl⟩); (rw [if_pos (by omega), if_pos (by omega), if_neg (by omega)]; exact ⟨rfl, rfl⟩); (rw [if_pos (by omega), if_pos (by omega), if_pos (by omega), if_neg (by omega)]; exact ⟨rfl, rfl⟩)))
          clear hK0 K0
          intro w2 H2
          go_wp2
          go_ret
          exact ⟨by rw [decide_eq_false NE.out]; rfl, H2.1⟩
      · have e : l = m := by
          have h1 := HE.out
          rw [List.take_of_length_le (by omega), List.take_of_length_le (by have := HL.out; omega)] at h1
          exact h1
        have D := hide (decide_eq_true e)
        clear e
        go_wp2
        go_ret
        exact ⟨by rw [D.out]; rfl, HH.1⟩
  · have NE := hide (show l ≠ m by intro e; exact hlen (by rw [e]))
    have E : ((l.length : Int) != (m.length : Int)) = true := by simp; omega
    clear hlen
    go_enter Try.func21, Try.ntmps21
    go_wp2
    go_ret
    exact ⟨by rw [decide_eq_false NE.out]; rfl, Below.refl _ _⟩
end Go.Proofs.Ytfmhpnendcikoaa
