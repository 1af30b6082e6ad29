/-
  Contracts of the law's own small functions: small, in, same, built. Conditions: the words are words of 64 bits.
  Contracts of same and awake. Conditions: the words are words of 64 bits; at most 1000000 ranges in a list.
  Contract of awake: the answers that the document fixes by number. No condition.
-/
import Derived.Test.YtfmhpnendcikoaaGreatSpanD
import Derived.Test.YtfmhpnendcikoaaGreatSpanN
namespace Go.Proofs.YtfmhpnendcikoaaGreat
open Go.RowKit Go.Joins

set_option maxHeartbeats 400000 in
theorem small_any (a b : Nat) (w : World) : Calls Tryz.prog 12 #[.int .u64 (a : Nat), .int .u64 (b : Nat)] w (Gives (.agg #[.int .u64 0, .int .u64 a, .int .u64 0, .int .u64 b]) w) := by
  go_enter Tryz.func12, Tryz.ntmps12
  go_wp2
  refine bodyPost_ret (v := .agg #[.int .u64 0, .int .u64 a, .int .u64 0, .int .u64 b]) (by simp [results, Tryz.results12, go_sem]) rfl ⟨rfl, ?_⟩
  exact below_alloc _ _

def inB (r : Rg) (a : Nat) : Bool := decide (r.1 ≤ a) && decide (a ≤ r.2)
/-- the set that the law builds: the ranges put one by one -/
def putIf (s : List Rg) (r : Rg) : List Rg := if okR r then putL s r else s
def builtL (l : List Rg) : List Rg := (l.take 200).foldl putIf []
theorem built_step {l : List Rg} {k : Nat} {x : Rg} (h : l[k]? = some x) : (l.take (k + 1)).foldl putIf [] = putIf ((l.take k).foldl putIf []) x := by
  rw [List.take_add_one, h, List.foldl_append]
  rfl
theorem putIf_good {s : List Rg} {r : Rg} (hs : Snd s) (hf : FitL s) (fr : FitR r) : Snd (putIf s r) ∧ FitL (putIf s r) ∧ (putIf s r).length ≤ s.length + 1 := by
  unfold putIf
  split
  · rename_i h
    have hr : r.1 ≤ r.2 := by simpa [okR] using h
    exact ⟨(put_spec hs hf hr).1, put_fit hf fr, put_len hs hr⟩
  · exact ⟨hs, hf, by omega⟩
theorem built_good {l : List Rg} (hf : FitL l) : ∀ k, Snd ((l.take k).foldl putIf []) ∧ FitL ((l.take k).foldl putIf []) ∧ ((l.take k).foldl putIf []).length ≤ k
  | 0 => ⟨trivial, (fun x hx => by simp at hx), by simp⟩
  | k + 1 => by
    obtain ⟨h1, h2, h3⟩ := built_good hf k
    by_cases hk : k < l.length
    · obtain ⟨x, hx⟩ := get_some hk
      rw [built_step hx]
      obtain ⟨g1, g2, g3⟩ := putIf_good h1 h2 (fit_at hf hx)
      exact ⟨g1, g2, by omega⟩
    · rw [List.take_of_length_le (by omega)] at h1 h2 h3
      rw [List.take_of_length_le (by omega)]
      exact ⟨h1, h2, by omega⟩
/-- a value that reads as a list -/
def Reads (l : List Rg) (w : World) (e : Ending) (w' : World) : Prop := ∃ v, e = .returned v ∧ Below w.heap.size w w' ∧ Lst v l w'
end Go.Proofs.YtfmhpnendcikoaaGreat
namespace Go.Proofs.YtfmhpnendcikoaaGreat
open Go.RowKit Go.Joins

theorem words_eq {a b : Nat} (h1 : hi a = hi b) (h2 : lo a = lo b) : a = b := by unfold hi lo at *; omega
theorem range_eq {x y : Rg} (h1 : hi x.1 = hi y.1) (h2 : lo x.1 = lo y.1) (h3 : hi x.2 = hi y.2) (h4 : lo x.2 = lo y.2) : x = y := Prod.ext (words_eq h1 h2) (words_eq h3 h4)
theorem words_ne {x y : Rg} (hxy : ¬ x = y) : (¬ hi x.1 = hi y.1) ∨ (hi x.1 = hi y.1 ∧ ¬ lo x.1 = lo y.1) ∨ (hi x.1 = hi y.1 ∧ lo x.1 = lo y.1 ∧ ¬ hi x.2 = hi y.2) ∨ (hi x.1 = hi y.1 ∧ lo x.1 = lo y.1 ∧ hi x.2 = hi y.2 ∧ ¬ lo x.2 = lo y.2) := by
  by_cases h1 : hi x.1 = hi y.1
  · by_cases h2 : lo x.1 = lo y.1
    · by_cases h3 : hi x.2 = hi y.2
      · by_cases h4 : lo x.2 = lo y.2
        · exact absurd (range_eq h1 h2 h3 h4) hxy
        · exact Or.inr (Or.inr (Or.inr ⟨h1, h2, h3, h4⟩))
      · exact Or.inr (Or.inr (Or.inl ⟨h1, h2, h3⟩))
    · exact Or.inr (Or.inl ⟨h1, h2⟩)
  · exact Or.inl h1
/-- two rows in older memory -/
def H2R (w : World) (p q : Option Go.Addr) (l m : List Rg) (W : World) : Prop := Below w.heap.size w W ∧ Old w.heap.size p l W ∧ Old w.heap.size q m W
theorem H2R.drew {w : World} {p q : Option Go.Addr} {l m : List Rg} {W : World} (h : H2R w p q l m W) : H2R w p q l m { W with drawn := W.drawn + 1 } := by
  have hb : Below w.heap.size W { W with drawn := W.drawn + 1 } := (Below.refl _ _).drew
  exact ⟨h.1.trans hb, h.2.1.keep hb, h.2.2.keep hb⟩
theorem row_get {base : Nat} {b o : Nat} {l : List Rg} {W : World} {k : Nat} {x : Rg} (h : Old base (some ⟨b, o, none⟩) l W) (hx : l[k]? = some x) : At b (o + k * 4) x W := by
  obtain ⟨b', o', e, _, ha⟩ := h k x hx
  cases e
  exact ha
theorem take_same {l m : List Rg} {k : Nat} {x : Rg} (h : l.take k = m.take k) (hx : l[k]? = some x) (hy : m[k]? = some x) : l.take (k + 1) = m.take (k + 1) := by
  rw [List.take_add_one, List.take_add_one, h, hx, hy]

set_option maxRecDepth 100000 in
set_option maxHeartbeats 1000000 in
theorem same_any {va vb : Value} {l m : List Rg} (hl : l.length ≤ 1000000) (w : World) (ha : Lst va l w) (hb : Lst vb m w) :
    Calls Tryz.prog 7 #[va, vb] w (Gives (.bool (decide (l = m))) w) := by
  obtain ⟨p, c, rfl, ho⟩ := lst_old ha
  obtain ⟨q, d, rfl, hq⟩ := lst_old hb
  by_cases hlen : l.length = m.length
  · go_enter Tryz.func7, Tryz.ntmps7
    have HL := hide hlen
    have E : ((l.length : Int) != (m.length : Int)) = false := by rw [hlen]; simp
    clear hlen
    go_wp2
    go_loopw [5] (fun i wr => ∃ k : Nat, k ≤ l.length ∧ i = .int .i64 (k : Nat) ∧ H2R w p q l m wr ∧ l.take k = m.take k) (fun i _ => l.length - (intOf i).toNat)
    case atStart => exact ⟨0, Nat.zero_le _, rfl, ⟨Below.refl _ _, ho, hq⟩, by simp⟩
    case round =>
      obtain ⟨k, hk, rfl, HH, he⟩ := hrel
      have HE := hide he
      clear he E
      by_cases hlt : k < l.length
      · obtain ⟨x, hx⟩ := get_some hlt
        have hlm : k < m.length := by have := HL.out; omega
        obtain ⟨y, hy⟩ := get_some hlm
        obtain ⟨b, o, rfl, _, _⟩ := HH.2.1 k x hx
        obtain ⟨b2, o2, rfl, _, _⟩ := HH.2.2 k y hy
        have RX := hide (fun W (H : H2R w (some ⟨b, o, none⟩) (some ⟨b2, o2, none⟩) l m W) => row_get H.2.1 hx)
        have RY := hide (fun W (H : H2R w (some ⟨b, o, none⟩) (some ⟨b2, o2, none⟩) l m W) => row_get H.2.2 hy)
        by_cases hxy : x = y
        · subst hxy
          have TK := hide (take_same HE.out hx hy)
          clear hx hy
          go_wp2_with fail
          refine wp_region_quiet (C := H2R w (some ⟨b, o, none⟩) (some ⟨b2, o2, none⟩) l m) (by kernel_rfl) (by kernel_rfl) HH.drew (wpQuiet_step (fun K0 hK0 => ?_))
          go_simp
          first | (with_reducible refine hK0 _ (wpQuiet_step (fun K1 hK1 => ?_))) | (with_reducible refine ⟨_, fun _ _ => rfl, hK0 _ (wpQuiet_step (fun K1 hK1 => ?_))⟩) | (rw [if_neg (by intro e; cases e)]; with_reducible refine hK0 _ (wpQuiet_step (fun K1 hK1 => ?_)))
          clear hK0 K0
          go_simp
          first | (with_reducible refine hK1 _ (wpQuiet_step (fun K0 hK0 => ?_))) | (with_reducible refine ⟨_, fun _ _ => rfl, hK1 _ (wpQuiet_step (fun K0 hK0 => ?_))⟩) | (rw [if_neg (by intro e; cases e)]; with_reducible refine hK1 _ (wpQuiet_step (fun K0 hK0 => ?_)))
          clear hK1 K1
          go_simp
          first | (with_reducible refine hK0 _ (wpQuiet_step (fun K1 hK1 => ?_))) | (with_reducible refine ⟨_, fun _ _ => rfl, hK0 _ (wpQuiet_step (fun K1 hK1 => ?_))⟩) | (rw [if_neg (by intro e; cases e)]; with_reducible refine hK0 _ (wpQuiet_step (fun K1 hK1 => ?_)))
          clear hK0 K0
          go_simp
          refine ⟨RV x, fun W hW => ?_, hK1 _ (wpQuiet_step (fun K0 hK0 => ?_))⟩
          · ((obtain ⟨u0, u1, u2, u3⟩ := RX.out W hW; simp [go_sem, u0, u1, u2, u3]))
          clear hK1 K1
          go_simp
          first | (with_reducible refine hK0 _ (wpQuiet_step (fun K1 hK1 => ?_))) | (with_reducible refine ⟨_, fun _ _ => rfl, hK0 _ (wpQuiet_step (fun K1 hK1 => ?_))⟩) | (rw [if_neg (by intro e; cases e)]; with_reducible refine hK0 _ (wpQuiet_step (fun K1 hK1 => ?_)))
          clear hK0 K0
          go_simp
          first | (with_reducible refine hK1 _ (wpQuiet_step (fun K0 hK0 => ?_))) | (with_reducible refine ⟨_, fun _ _ => rfl, hK1 _ (wpQuiet_step (fun K0 hK0 => ?_))⟩) | (rw [if_neg (by intro e; cases e)]; with_reducible refine hK1 _ (wpQuiet_step (fun K0 hK0 => ?_)))
          clear hK1 K1
          go_simp
          first | (with_reducible refine hK0 _ (wpQuiet_step (fun K1 hK1 => ?_))) | (with_reducible refine ⟨_, fun _ _ => rfl, hK0 _ (wpQuiet_step (fun K1 hK1 => ?_))⟩) | (rw [if_neg (by intro e; cases e)]; with_reducible refine hK0 _ (wpQuiet_step (fun K1 hK1 => ?_)))
          clear hK0 K0
          go_simp
          refine ⟨RV x, fun W hW => ?_, hK1 _ (wpQuiet_step (fun K0 hK0 => ?_))⟩
          · ((obtain ⟨u0, u1, u2, u3⟩ := RY.out W hW; simp [go_sem, u0, u1, u2, u3]))
          clear hK1 K1
          go_simp
          first | (with_reducible refine hK0 _ (wpQuiet_nil ?_)) | (with_reducible refine ⟨_, fun _ _ => rfl, hK0 _ (wpQuiet_nil ?_)⟩) | (rw [if_neg (by intro e; cases e)]; with_reducible refine hK0 _ (wpQuiet_nil ?_))
          clear hK0 K0
          intro w2 H2
          go_wp2
          go_roundw
          case rel => exact ⟨k + 1, hlt, by go_num, H2, TK.out⟩
          case measure => simp [intOf]; omega
        · have NE := hide (show l ≠ m by intro e; rw [e, hy] at hx; exact hxy (Option.some.inj hx).symm)
          clear hx hy
          have DN := hide (words_ne hxy)
          clear hxy
          go_wp2_with fail
          refine wp_region_quiet (C := H2R w (some ⟨b, o, none⟩) (some ⟨b2, o2, none⟩) l m) (by kernel_rfl) (by kernel_rfl) HH.drew (wpQuiet_step (fun K0 hK0 => ?_))
          go_simp
          first | (with_reducible refine hK0 _ (wpQuiet_step (fun K1 hK1 => ?_))) | (with_reducible refine ⟨_, fun _ _ => rfl, hK0 _ (wpQuiet_step (fun K1 hK1 => ?_))⟩) | (rw [if_neg (by intro e; cases e)]; with_reducible refine hK0 _ (wpQuiet_step (fun K1 hK1 => ?_)))
          clear hK0 K0
          go_simp
          first | (with_reducible refine hK1 _ (wpQuiet_step (fun K0 hK0 => ?_))) | (with_reducible refine ⟨_, fun _ _ => rfl, hK1 _ (wpQuiet_step (fun K0 hK0 => ?_))⟩) | (rw [if_neg (by intro e; cases e)]; with_reducible refine hK1 _ (wpQuiet_step (fun K0 hK0 => ?_)))
          clear hK1 K1
          go_simp
          first | (with_reducible refine hK0 _ (wpQuiet_step (fun K1 hK1 => ?_))) | (with_reducible refine ⟨_, fun _ _ => rfl, hK0 _ (wpQuiet_step (fun K1 hK1 => ?_))⟩) | (rw [if_neg (by intro e; cases e)]; with_reducible refine hK0 _ (wpQuiet_step (fun K1 hK1 => ?_)))
          clear hK0 K0
          go_simp
          refine ⟨RV x, fun W hW => ?_, hK1 _ (wpQuiet_step (fun K0 hK0 => ?_))⟩
          · ((obtain ⟨u0, u1, u2, u3⟩ := RX.out W hW; simp [go_sem, u0, u1, u2, u3]))
          clear hK1 K1
          go_simp
          first | (with_reducible refine hK0 _ (wpQuiet_step (fun K1 hK1 => ?_))) | (with_reducible refine ⟨_, fun _ _ => rfl, hK0 _ (wpQuiet_step (fun K1 hK1 => ?_))⟩) | (rw [if_neg (by intro e; cases e)]; with_reducible refine hK0 _ (wpQuiet_step (fun K1 hK1 => ?_)))
          clear hK0 K0
          go_simp
          first | (with_reducible refine hK1 _ (wpQuiet_step (fun K0 hK0 => ?_))) | (with_reducible refine ⟨_, fun _ _ => rfl, hK1 _ (wpQuiet_step (fun K0 hK0 => ?_))⟩) | (rw [if_neg (by intro e; cases e)]; with_reducible refine hK1 _ (wpQuiet_step (fun K0 hK0 => ?_)))
          clear hK1 K1
          go_simp
          first | (with_reducible refine hK0 _ (wpQuiet_step (fun K1 hK1 => ?_))) | (with_reducible refine ⟨_, fun _ _ => rfl, hK0 _ (wpQuiet_step (fun K1 hK1 => ?_))⟩) | (rw [if_neg (by intro e; cases e)]; with_reducible refine hK0 _ (wpQuiet_step (fun K1 hK1 => ?_)))
          clear hK0 K0
          go_simp
          refine ⟨RV y, fun W hW => ?_, hK1 _ (wpQuiet_step (fun K0 hK0 => ?_))⟩
          · ((obtain ⟨u0, u1, u2, u3⟩ := RY.out W hW; simp [go_sem, u0, u1, u2, u3]))
          clear hK1 K1
          go_simp
          refine ⟨.bool true, fun W hW => ?_, hK0 _ (wpQuiet_nil ?_)⟩
          · ((rcases DN.out with h1 | ⟨h1, h2⟩ | ⟨h1, h2, h3⟩ | ⟨h1, h2, h3, h4⟩; (rw [if_neg (by omega)]; exact ⟨rfl, rfl⟩); (rw [if_pos (by omega), if_neg (by omega)]; exact ⟨rfl, rfl⟩); (rw [if_pos (by omega), if_pos (by omega), if_neg (by omega)]; exact ⟨rfl, rfl⟩); (rw [if_pos (by omega), if_pos (by omega), if_pos (by omega), if_neg (by omega)]; exact ⟨rfl, rfl⟩)))
          clear hK0 K0
          intro w2 H2
          go_wp2
          go_ret
          exact ⟨by rw [decide_eq_false NE.out]; rfl, H2.1⟩
      · have e : l = m := by
          have h1 := HE.out
          rw [List.take_of_length_le (by omega), List.take_of_length_le (by have := HL.out; omega)] at h1
          exact h1
        have D := hide (decide_eq_true e)
        clear e
        go_wp2
        go_ret
        exact ⟨by rw [D.out]; rfl, HH.1⟩
  · have NE := hide (show l ≠ m by intro e; exact hlen (by rw [e]))
    have E : ((l.length : Int) != (m.length : Int)) = true := by simp; omega
    clear hlen
    go_enter Tryz.func7, Tryz.ntmps7
    go_wp2
    go_ret
    exact ⟨by rw [decide_eq_false NE.out]; rfl, Below.refl _ _⟩
end Go.Proofs.YtfmhpnendcikoaaGreat
namespace Go.Proofs.YtfmhpnendcikoaaGreat
open Go.RowKit Go.Joins

theorem fit_small {l : List Rg} (h : ∀ x ∈ l, x.1 < 1000 ∧ x.2 < 1000) : FitL l := fun x hx => by
  have := h x hx
  unfold FitR Fits
  omega
abbrev s0 : List Rg := [(1, 3), (7, 9)]
abbrev s1 : List Rg := [(1, 5), (7, 9)]
abbrev s2 : List Rg := [(1, 1), (9, 9)]
abbrev s3 : List Rg := [(2, 3), (7, 8)]
theorem f0 : FitL s0 := fit_small (by decide)
theorem f1 : FitL s1 := fit_small (by decide)
theorem f2 : FitL s2 := fit_small (by decide)
theorem fr_small {a b : Nat} (h : a < 1000 ∧ b < 1000) : FitR (a, b) := by unfold FitR Fits; simp only; omega
theorem k1 : putL s0 (4, 5) = s1 := by decide +kernel
theorem k2 : lessL s1 [(2, 8)] = s2 := by decide +kernel
theorem k3 : lessL s0 s2 = s3 := by decide +kernel
theorem k4 : cntV s0 = 6 ∧ cntO s0 = false := by decide +kernel
theorem k5 : nthV s0 3 = 7 ∧ nthO s0 3 = true := by decide +kernel
theorem k6 : rankS s0 8 = 4 := by decide +kernel
theorem k7 : hasB s0 9 = true := by decide +kernel
theorem k8 : soundL s0 = true ∧ soundL s1 = true ∧ soundL s2 = true := by decide +kernel
theorem lst_two (V : World) (x y : Rg) (t : TypeId) : Lst (.slice (some ⟨V.heap.size, 0, none⟩) 2 2) [x, y] (V.alloc (.cells #[.int .u64 (hi x.1 : Nat), .int .u64 (lo x.1 : Nat), .int .u64 (hi x.2 : Nat), .int .u64 (lo x.2 : Nat), .int .u64 (hi y.1 : Nat), .int .u64 (lo y.1 : Nat), .int .u64 (hi y.2 : Nat), .int .u64 (lo y.2 : Nat)] t)) := by
  refine Or.inr ⟨V.heap.size, 0, 2, rfl, ⟨by simp, fun j z hz => ?_⟩, by simp, by simp, by omega⟩
  match j, hz with
  | 0, hz => simp at hz; subst hz; refine ⟨?_, ?_, ?_, ?_⟩ <;> simp [go_sem]
  | 1, hz => simp at hz; subst hz; refine ⟨?_, ?_, ?_, ?_⟩ <;> simp [go_sem]
  | j + 2, hz => simp at hz
theorem sm13 (w : World) : Calls Tryz.prog 12 #[.int .u64 1, .int .u64 3] w (Gives (.agg #[.int .u64 0, .int .u64 1, .int .u64 0, .int .u64 3]) w) := small_any 1 3 w
theorem sm79 (w : World) : Calls Tryz.prog 12 #[.int .u64 7, .int .u64 9] w (Gives (.agg #[.int .u64 0, .int .u64 7, .int .u64 0, .int .u64 9]) w) := small_any 7 9 w
theorem sm45 (w : World) : Calls Tryz.prog 12 #[.int .u64 4, .int .u64 5] w (Gives (.agg #[.int .u64 0, .int .u64 4, .int .u64 0, .int .u64 5]) w) := small_any 4 5 w
theorem sm28 (w : World) : Calls Tryz.prog 12 #[.int .u64 2, .int .u64 8] w (Gives (.agg #[.int .u64 0, .int .u64 2, .int .u64 0, .int .u64 8]) w) := small_any 2 8 w
theorem sm15 (w : World) : Calls Tryz.prog 12 #[.int .u64 1, .int .u64 5] w (Gives (.agg #[.int .u64 0, .int .u64 1, .int .u64 0, .int .u64 5]) w) := small_any 1 5 w
theorem sm11 (w : World) : Calls Tryz.prog 12 #[.int .u64 1, .int .u64 1] w (Gives (.agg #[.int .u64 0, .int .u64 1, .int .u64 0, .int .u64 1]) w) := small_any 1 1 w
theorem sm99 (w : World) : Calls Tryz.prog 12 #[.int .u64 9, .int .u64 9] w (Gives (.agg #[.int .u64 0, .int .u64 9, .int .u64 0, .int .u64 9]) w) := small_any 9 9 w
theorem sm23 (w : World) : Calls Tryz.prog 12 #[.int .u64 2, .int .u64 3] w (Gives (.agg #[.int .u64 0, .int .u64 2, .int .u64 0, .int .u64 3]) w) := small_any 2 3 w
theorem sm78 (w : World) : Calls Tryz.prog 12 #[.int .u64 7, .int .u64 8] w (Gives (.agg #[.int .u64 0, .int .u64 7, .int .u64 0, .int .u64 8]) w) := small_any 7 8 w
theorem lt0 (V : World) (t : TypeId) : Lst (.slice (some ⟨V.heap.size, 0, none⟩) 2 2) [(1, 3), (7, 9)] (V.alloc (.cells #[.int .u64 0, .int .u64 1, .int .u64 0, .int .u64 3, .int .u64 0, .int .u64 7, .int .u64 0, .int .u64 9] t)) := lst_two V (1, 3) (7, 9) t
theorem lt1 (V : World) (t : TypeId) : Lst (.slice (some ⟨V.heap.size, 0, none⟩) 2 2) [(1, 5), (7, 9)] (V.alloc (.cells #[.int .u64 0, .int .u64 1, .int .u64 0, .int .u64 5, .int .u64 0, .int .u64 7, .int .u64 0, .int .u64 9] t)) := lst_two V (1, 5) (7, 9) t
theorem lt2 (V : World) (t : TypeId) : Lst (.slice (some ⟨V.heap.size, 0, none⟩) 2 2) [(1, 1), (9, 9)] (V.alloc (.cells #[.int .u64 0, .int .u64 1, .int .u64 0, .int .u64 1, .int .u64 0, .int .u64 9, .int .u64 0, .int .u64 9] t)) := lst_two V (1, 1) (9, 9) t
theorem lt3 (V : World) (t : TypeId) : Lst (.slice (some ⟨V.heap.size, 0, none⟩) 2 2) [(2, 3), (7, 8)] (V.alloc (.cells #[.int .u64 0, .int .u64 2, .int .u64 0, .int .u64 3, .int .u64 0, .int .u64 7, .int .u64 0, .int .u64 8] t)) := lst_two V (2, 3) (7, 8) t
theorem cLess (v u : Value) (W : World) (H : Lst v s0 W) (K : Lst u s2 W) : Calls Tryz.prog 23 #[v, u] W (PutGives s3 W) := k3 ▸ less_any f0 f2 k8.1 k8.2.2 (by decide) (by decide) W H K
theorem cCount (v : Value) (W : World) (H : Lst v s0 W) : Calls Tryz.prog 26 #[v] W (Gives (.tuple #[.agg #[.int .u64 0, .int .u64 6], .bool false]) W) := via (count_any f0 (by decide) W H) (by rw [k4.1, k4.2]; rfl)
theorem cNth (v : Value) (W : World) (H : Lst v s0 W) : Calls Tryz.prog 28 #[v, .agg #[.int .u64 0, .int .u64 3]] W (Gives (.tuple #[.agg #[.int .u64 0, .int .u64 7], .bool true]) W) := via (nth_any (n := 3) f0 (by unfold Fits; decide) (by decide) W H) (by rw [k5.1, k5.2]; rfl)
theorem cSound (v : Value) (W : World) (H : Lst v s0 W) : Calls Tryz.prog 38 #[v] W (Gives (.bool true) W) := via (sound_any f0 (by decide) W H) (by rw [k8.1])
theorem cSame {va vb : Value} {l : List Rg} (hl : l.length ≤ 1000000) (W : World) (H : Lst va l W) (K : Lst vb l W) : Calls Tryz.prog 7 #[va, vb] W (Gives (.bool true) W) := via (same_any hl W H K) (by simp)
theorem words6 {g : Nat} {W : World} (h : Two g 6 W) : g < W.heap.size ∧ W.cell? ⟨g, 0, none⟩ = some (.int .u64 0) ∧ W.cell? ⟨g, 1, none⟩ = some (.int .u64 6) ∧ W.frozen? ⟨g, 0, none⟩ = false ∧ W.frozen? ⟨g, 1, none⟩ = false := h
theorem words7 {g : Nat} {W : World} (h : Two g 7 W) : g < W.heap.size ∧ W.cell? ⟨g, 0, none⟩ = some (.int .u64 0) ∧ W.cell? ⟨g, 1, none⟩ = some (.int .u64 7) ∧ W.frozen? ⟨g, 0, none⟩ = false ∧ W.frozen? ⟨g, 1, none⟩ = false := h

end Go.Proofs.YtfmhpnendcikoaaGreat
