/-
  Contracts of sort.Search (at a function that may make memory), of meeting's two functions and of meeting. Conditions: the words are words of 64 bits; a slice has at most 1000000 ranges, and is a set.
-/
import Derived.Test.YtfmhpnendcikoaaGreatSpanL
import Derived.Shelf.Abstract
namespace Go.Proofs.YtfmhpnendcikoaaGreat
open Go.RowKit Go.Joins

theorem half_bits (lo hi : Nat) : ((lo : Int) + (hi : Int)) / 2 = (((lo + hi) / 2 : Nat) : Int) := by omega
set_option maxRecDepth 100000 in
set_option maxHeartbeats 1000000 in
theorem search_any (g : FuncId) (cb : Array Value) (n k : Nat) (p : Nat → Bool) (hn : n ≤ 1000000) (hk : k ≤ n) (h1 : ∀ i, i < k → p i = false) (h2 : ∀ i, k ≤ i → i < n → p i = true) (w : World)
    (eg : ∀ args w, (callFunc g args).run Tryz.prog w = .ok (.enter g args) w)
    (hf : ∀ W, Below w.heap.size w W → ∀ i : Nat, i < n → Calls Tryz.prog g (#[.int .i64 i] ++ cb) W (Gives (.bool (p i)) W)) :
    Calls Tryz.prog 69 #[.int .i64 n, .func (.func g) #[] cb] w (Gives (.int .i64 k) w) := by
  have HF := hide hf
  have H1 := hide h1
  have H2 := hide h2
  clear hf h1 h2
  go_enter Tryz.func69, Tryz.ntmps69
  go_wp2
  go_loopg [5, 6] n (fun kx s5 s6 wr => ∃ (lo hi : Nat), s5 = .int .i64 lo ∧ s6 = .int .i64 hi ∧ lo ≤ k ∧ k ≤ hi ∧ hi ≤ n ∧ hi - lo ≤ kx ∧ Below w.heap.size w wr)
  case atStart => exact ⟨0, n, rfl, rfl, Nat.zero_le _, hk, Nat.le_refl _, by omega, Below.refl _ _⟩
  case round =>
    obtain ⟨lo, hi, rfl, rfl, hlk, hkh, hin, hg, HB⟩ := hrel
    by_cases hlt : lo < hi
    · have hc := HF.out _ HB ((lo + hi) / 2) (by omega)
      rw [← half_bits] at hc
      by_cases hm : (lo + hi) / 2 < k
      · rw [H1.out _ hm] at hc
        go_wp2_with (go_at_fn g; refine hc.mono ?_; rintro e w' ⟨rfl, hb⟩)
        go_roundg (hi - ((lo + hi) / 2 + 1))
        case rel => exact ⟨(lo + hi) / 2 + 1, hi, by go_num, rfl, by omega, hkh, hin, by omega, chain HB hb⟩
        case measure => omega
      · rw [H2.out _ (by omega) (by omega)] at hc
        go_wp2_with (go_at_fn g; refine hc.mono ?_; rintro e w' ⟨rfl, hb⟩)
        go_roundg ((lo + hi) / 2 - lo)
        case rel => exact ⟨lo, (lo + hi) / 2, rfl, by rw [half_bits], hlk, by omega, by omega, by omega, chain HB hb⟩
        case measure => omega
    · obtain rfl : lo = k := by omega
      go_wp2
      go_ret
      exact ⟨rfl, HB⟩
theorem enter1 (args : Array Value) (w : World) : (callFunc 70 args).run Tryz.prog w = .ok (.enter 70 args) w := enters_of Tryz.func70 (by kernel_rfl) rfl args w
theorem enter2 (args : Array Value) (w : World) : (callFunc 71 args).run Tryz.prog w = .ok (.enter 71 args) w := enters_of Tryz.func71 (by kernel_rfl) rfl args w
theorem cmp_ge (a b : Nat) : decide (0 ≤ cmpS a b) = decide (b ≤ a) := by
  unfold cmpS
  rw [decide_eq_decide]
  repeat' split
  all_goals omega
theorem cmp_gt (a b : Nat) : decide (0 < cmpS a b) = decide (b < a) := by
  unfold cmpS
  rw [decide_eq_decide]
  repeat' split
  all_goals omega
/-- what meeting's two functions hold: the slice, the range and the row -/
def HM (w : World) (gs gr b o n c : Nat) (l : List Rg) (r : Rg) (W : World) : Prop := Below w.heap.size w W ∧ W.cell? ⟨gs, 0, none⟩ = some (.slice (some ⟨b, o, none⟩) n c) ∧ Four gr r W ∧ RowR b o l W
theorem HM.step {w : World} {gs gr b o n c : Nat} {l : List Rg} {r : Rg} {W w2 : World} (h : HM w gs gr b o n c l r W) (hb : Below W.heap.size W w2) : HM w gs gr b o n c l r w2 := ⟨h.1.trans (hb.mono h.1.size), keep_cell hb h.2.1, h.2.2.1.step hb, h.2.2.2.step hb⟩
theorem HM.drew {w : World} {gs gr b o n c : Nat} {l : List Rg} {r : Rg} {W : World} (h : HM w gs gr b o n c l r W) : HM w gs gr b o n c l r { W with drawn := W.drawn + 1 } := h.step (Below.refl _ _).drew
theorem HM.self {w : World} {gs gr b o n c : Nat} {l : List Rg} {r : Rg} {W : World} (h : HM w gs gr b o n c l r W) : HM W gs gr b o n c l r W := ⟨Below.refl _ _, h.2⟩

set_option maxRecDepth 100000 in
set_option maxHeartbeats 400000 in
theorem meet1_any {gs gr b o c : Nat} {l : List Rg} {r : Rg} {i : Nat} {x : Rg} (hx : l[i]? = some x) (_hl : l.length ≤ 1000000) (w : World) (h : HM w gs gr b o l.length c l r w) :
    Calls Tryz.prog 70 #[.int .i64 (i : Nat), .pointer (some ⟨gs, 0, none⟩), .pointer (some ⟨gr, 0, none⟩)] w (Gives (.bool (decide (r.1 ≤ x.2))) w) := by
  have hi := lt_of_some hx
  have CM := hide (fun W => cmp_any x.2 r.1 W)
  have R := hide (cmp_ge x.2 r.1)
  have HX := hide (fun W (H : HM w gs gr b o l.length c l r W) => H.2.2.2.2 i x hx)
  have P0 : i < l.length := hi
  clear hx
  go_enter Tryz.func70, Tryz.ntmps70
  go_wp2_with fail
  refine wp_region_quiet (C := HM w gs gr b o l.length c l r) (by kernel_rfl) (by kernel_rfl) h.drew (wpQuiet_step (fun K0 hK0 => ?_))
  go_simp
  refine ⟨.slice (some ⟨b, o, none⟩) l.length c, fun W hW => ?_, hK0 _ (wpQuiet_step (fun K1 hK1 => ?_))⟩
  · ((have u := hW.2.1; simp [go_sem, u]))
  clear hK0 K0
  go_simp
  first | (with_reducible refine hK1 _ (wpQuiet_step (fun K0 hK0 => ?_))) | (with_reducible refine ⟨_, fun _ _ => rfl, hK1 _ (wpQuiet_step (fun K0 hK0 => ?_))⟩) | (rw [if_neg (by intro e; cases e)]; with_reducible refine hK1 _ (wpQuiet_step (fun K0 hK0 => ?_)))
  clear hK1 K1
  go_simp
  first | (with_reducible refine hK0 _ (wpQuiet_step (fun K1 hK1 => ?_))) | (with_reducible refine ⟨_, fun _ _ => rfl, hK0 _ (wpQuiet_step (fun K1 hK1 => ?_))⟩) | (rw [if_neg (by intro e; cases e)]; with_reducible refine hK0 _ (wpQuiet_step (fun K1 hK1 => ?_)))
  clear hK0 K0
  go_simp
  first | (with_reducible refine hK1 _ (wpQuiet_step (fun K0 hK0 => ?_))) | (with_reducible refine ⟨_, fun _ _ => rfl, hK1 _ (wpQuiet_step (fun K0 hK0 => ?_))⟩) | (rw [if_neg (by intro e; cases e)]; with_reducible refine hK1 _ (wpQuiet_step (fun K0 hK0 => ?_)))
  clear hK1 K1
  go_simp
  refine ⟨A x.2, fun W hW => ?_, hK0 _ (wpQuiet_step (fun K1 hK1 => ?_))⟩
  · ((obtain ⟨u0, u1, u2, u3⟩ := HX.out W hW; simp [go_sem, u2, u3]))
  clear hK0 K0
  go_simp
  first | (with_reducible refine hK1 _ (wpQuiet_step (fun K0 hK0 => ?_))) | (with_reducible refine ⟨_, fun _ _ => rfl, hK1 _ (wpQuiet_step (fun K0 hK0 => ?_))⟩) | (rw [if_neg (by intro e; cases e)]; with_reducible refine hK1 _ (wpQuiet_step (fun K0 hK0 => ?_)))
  clear hK1 K1
  go_simp
  refine ⟨A r.1, fun W hW => ?_, hK0 _ (wpQuiet_step (fun K1 hK1 => ?_))⟩
  · ((obtain ⟨_, _, ⟨_, ⟨u0, u1, u2, u3⟩, _⟩, _⟩ := hW; simp [go_sem, u0, u1]))
  clear hK0 K0
  go_simp
  refine ⟨.int .i64 (cmpS x.2 r.1), fun W hW => ?_, hK1 _ (wpQuiet_step (fun K0 hK0 => ?_))⟩
  · exact (CM.out W).mono fun e w2 ⟨he, hb⟩ => ⟨he, HM.step hW hb⟩
  clear hK1 K1
  go_simp
  first | (with_reducible refine hK0 _ (wpQuiet_step (fun K1 hK1 => ?_))) | (with_reducible refine ⟨_, fun _ _ => rfl, hK0 _ (wpQuiet_step (fun K1 hK1 => ?_))⟩) | (rw [if_neg (by intro e; cases e)]; with_reducible refine hK0 _ (wpQuiet_step (fun K1 hK1 => ?_)))
  clear hK0 K0
  go_simp
  first | (with_reducible refine hK1 _ (wpQuiet_nil ?_)) | (with_reducible refine ⟨_, fun _ _ => rfl, hK1 _ (wpQuiet_nil ?_)⟩) | (rw [if_neg (by intro e; cases e)]; with_reducible refine hK1 _ (wpQuiet_nil ?_))
  clear hK1 K1
  intro w2 H2
  go_wp2
  go_ret
  exact ⟨congrArg Ending.returned (bool_eq R.out), H2.1⟩
set_option maxRecDepth 100000 in
set_option maxHeartbeats 400000 in
theorem meet2_any {gs gr b o c : Nat} {l : List Rg} {r : Rg} {i : Nat} {x : Rg} (hx : l[i]? = some x) (_hl : l.length ≤ 1000000) (w : World) (h : HM w gs gr b o l.length c l r w) :
    Calls Tryz.prog 71 #[.int .i64 (i : Nat), .pointer (some ⟨gs, 0, none⟩), .pointer (some ⟨gr, 0, none⟩)] w (Gives (.bool (decide (r.2 < x.1))) w) := by
  have hi := lt_of_some hx
  have CM := hide (fun W => cmp_any x.1 r.2 W)
  have R := hide (cmp_gt x.1 r.2)
  have HX := hide (fun W (H : HM w gs gr b o l.length c l r W) => H.2.2.2.2 i x hx)
  have P0 : i < l.length := hi
  clear hx
  go_enter Tryz.func71, Tryz.ntmps71
  go_wp2_with fail
  refine wp_region_quiet (C := HM w gs gr b o l.length c l r) (by kernel_rfl) (by kernel_rfl) h.drew (wpQuiet_step (fun K0 hK0 => ?_))
  go_simp
  refine ⟨.slice (some ⟨b, o, none⟩) l.length c, fun W hW => ?_, hK0 _ (wpQuiet_step (fun K1 hK1 => ?_))⟩
  · ((have u := hW.2.1; simp [go_sem, u]))
  clear hK0 K0
  go_simp
  first | (with_reducible refine hK1 _ (wpQuiet_step (fun K0 hK0 => ?_))) | (with_reducible refine ⟨_, fun _ _ => rfl, hK1 _ (wpQuiet_step (fun K0 hK0 => ?_))⟩) | (rw [if_neg (by intro e; cases e)]; with_reducible refine hK1 _ (wpQuiet_step (fun K0 hK0 => ?_)))
  clear hK1 K1
  go_simp
  first | (with_reducible refine hK0 _ (wpQuiet_step (fun K1 hK1 => ?_))) | (with_reducible refine ⟨_, fun _ _ => rfl, hK0 _ (wpQuiet_step (fun K1 hK1 => ?_))⟩) | (rw [if_neg (by intro e; cases e)]; with_reducible refine hK0 _ (wpQuiet_step (fun K1 hK1 => ?_)))
  clear hK0 K0
  go_simp
  first | (with_reducible refine hK1 _ (wpQuiet_step (fun K0 hK0 => ?_))) | (with_reducible refine ⟨_, fun _ _ => rfl, hK1 _ (wpQuiet_step (fun K0 hK0 => ?_))⟩) | (rw [if_neg (by intro e; cases e)]; with_reducible refine hK1 _ (wpQuiet_step (fun K0 hK0 => ?_)))
  clear hK1 K1
  go_simp
  refine ⟨A x.1, fun W hW => ?_, hK0 _ (wpQuiet_step (fun K1 hK1 => ?_))⟩
  · ((obtain ⟨u0, u1, u2, u3⟩ := HX.out W hW; simp [go_sem, u0, u1]))
  clear hK0 K0
  go_simp
  first | (with_reducible refine hK1 _ (wpQuiet_step (fun K0 hK0 => ?_))) | (with_reducible refine ⟨_, fun _ _ => rfl, hK1 _ (wpQuiet_step (fun K0 hK0 => ?_))⟩) | (rw [if_neg (by intro e; cases e)]; with_reducible refine hK1 _ (wpQuiet_step (fun K0 hK0 => ?_)))
  clear hK1 K1
  go_simp
  refine ⟨A r.2, fun W hW => ?_, hK0 _ (wpQuiet_step (fun K1 hK1 => ?_))⟩
  · ((obtain ⟨_, _, ⟨_, ⟨u0, u1, u2, u3⟩, _⟩, _⟩ := hW; simp [go_sem, u2, u3]))
  clear hK0 K0
  go_simp
  refine ⟨.int .i64 (cmpS x.1 r.2), fun W hW => ?_, hK1 _ (wpQuiet_step (fun K0 hK0 => ?_))⟩
  · exact (CM.out W).mono fun e w2 ⟨he, hb⟩ => ⟨he, HM.step hW hb⟩
  clear hK1 K1
  go_simp
  first | (with_reducible refine hK0 _ (wpQuiet_step (fun K1 hK1 => ?_))) | (with_reducible refine ⟨_, fun _ _ => rfl, hK0 _ (wpQuiet_step (fun K1 hK1 => ?_))⟩) | (rw [if_neg (by intro e; cases e)]; with_reducible refine hK0 _ (wpQuiet_step (fun K1 hK1 => ?_)))
  clear hK0 K0
  go_simp
  first | (with_reducible refine hK1 _ (wpQuiet_nil ?_)) | (with_reducible refine ⟨_, fun _ _ => rfl, hK1 _ (wpQuiet_nil ?_)⟩) | (rw [if_neg (by intro e; cases e)]; with_reducible refine hK1 _ (wpQuiet_nil ?_))
  clear hK1 K1
  intro w2 H2
  go_wp2
  go_ret
  exact ⟨congrArg Ending.returned (bool_eq R.out), H2.1⟩

theorem from_no {l : List Rg} (hs : Snd l) (a : Nat) : ∀ i, i < fromS l a → decide (a ≤ (l.getD i (0, 0)).2) = false := by
  intro i hi
  have hl := from_le l a
  have := (from_iff hs (some_getD (show i < l.length by omega)) (a := a)).1 hi
  rw [decide_eq_false_iff_not]
  omega
theorem from_yes {l : List Rg} (hs : Snd l) (a : Nat) : ∀ i, fromS l a ≤ i → i < l.length → decide (a ≤ (l.getD i (0, 0)).2) = true := by
  intro i hi hn
  have := (from_iff hs (some_getD hn) (a := a)).2
  rw [decide_eq_true_eq]
  omega
theorem to_no {l : List Rg} (hs : Snd l) (b : Nat) : ∀ i, i < toS l b → decide (b < (l.getD i (0, 0)).1) = false := by
  intro i hi
  have hl := to_le l b
  have := (to_iff hs (some_getD (show i < l.length by omega)) (b := b)).1 hi
  rw [decide_eq_false_iff_not]
  omega
theorem to_yes {l : List Rg} (hs : Snd l) (b : Nat) : ∀ i, toS l b ≤ i → i < l.length → decide (b < (l.getD i (0, 0)).1) = true := by
  intro i hi hn
  have := (to_iff hs (some_getD hn) (b := b)).2
  rw [decide_eq_true_eq]
  omega
theorem hm_new (w : World) {b o n c : Nat} {l : List Rg} (r : Rg) (hr : RowR b o l w) : HM w w.heap.size (w.heap.size + 1) b o n c l r ((w.alloc (.cells #[.slice (some ⟨b, o, none⟩) n c] 22)).alloc (.cells #[.int .u64 (hi r.1 : Nat), .int .u64 (lo r.1 : Nat), .int .u64 (hi r.2 : Nat), .int .u64 (lo r.2 : Nat)] 36)) := by
  generalize hV : w.alloc (.cells #[.slice (some ⟨b, o, none⟩) n c] 22) = V
  have hb : Below w.heap.size w V := hV ▸ below_alloc _ _
  have hs : V.heap.size = w.heap.size + 1 := by rw [← hV]; simp
  have hc : V.cell? ⟨w.heap.size, 0, none⟩ = some (.slice (some ⟨b, o, none⟩) n c) := by rw [← hV]; simp [go_sem]
  have h2 := four_new V r 36
  rw [hs] at h2
  exact ⟨chain hb (below_alloc _ _), keep_cell (below_alloc _ _) hc, h2, (hr.step hb).step (below_alloc _ _)⟩

set_option maxRecDepth 100000 in
set_option maxHeartbeats 400000 in
theorem meeting_some {b o c : Nat} {l : List Rg} {r : Rg} (hs : Snd l) (hl : l.length ≤ 1000000) (w : World) (hr : RowR b o l w) :
    Calls Tryz.prog 43 #[.slice (some ⟨b, o, none⟩) l.length c, RV r] w (Gives (.tuple #[.int .i64 (fromS l r.1 : Nat), .int .i64 (toS l r.2 : Nat)]) w) := by
  have S1 := hide (fun (W : World) (gs gr : Nat) (H : HM W gs gr b o l.length c l r W) => search_any 70 #[.pointer (some ⟨gs, 0, none⟩), .pointer (some ⟨gr, 0, none⟩)] l.length (fromS l r.1) (fun i => decide (r.1 ≤ (l.getD i (0, 0)).2)) hl (from_le l r.1) (from_no hs r.1) (from_yes hs r.1) W enter1
    (fun W2 hb i hi => meet1_any (some_getD hi) hl W2 (H.step hb).self))
  have S2 := hide (fun (W : World) (gs gr : Nat) (H : HM W gs gr b o l.length c l r W) => search_any 71 #[.pointer (some ⟨gs, 0, none⟩), .pointer (some ⟨gr, 0, none⟩)] l.length (toS l r.2) (fun i => decide (r.2 < (l.getD i (0, 0)).1)) hl (to_le l r.2) (to_no hs r.2) (to_yes hs r.2) W enter2
    (fun W2 hb i hi => meet2_any (some_getD hi) hl W2 (H.step hb).self))
  have H0 := hm_new w (n := l.length) (c := c) r hr
  generalize fromS l r.1 = f at S1 ⊢
  generalize toS l r.2 = t at S2 ⊢
  go_enter Tryz.func43, Tryz.ntmps43
  go_wp2_with fail
  refine (S1.out _ _ _ H0.self).mono ?_
  rintro e w1 ⟨rfl, hb1⟩
  have H1 := H0.step hb1
  clear hb1 H0
  have u := H1.2.1
  go_wp2_with fail
  clear u
  refine (S2.out _ _ _ H1.self).mono ?_
  rintro e w2 ⟨rfl, hb2⟩
  have H2 := H1.step hb2
  clear hb2 H1
  go_wp2
  go_ret2
  exact ⟨rfl, H2.1⟩
theorem search_none (g : FuncId) (cb : Array Value) (w : World) : Calls Tryz.prog 69 #[.int .i64 0, .func (.func g) #[] cb] w (Gives (.int .i64 0) w) := by
  go_enter Tryz.func69, Tryz.ntmps69
  go_wp2
  go_loop [5, 6] (fun i j => i = .int .i64 0 ∧ j = .int .i64 0) (fun _ _ => 0)
  case atStart => exact ⟨rfl, rfl⟩
  case round =>
    obtain ⟨rfl, rfl⟩ := hrel
    go_wp2
    go_ret
    exact ⟨rfl, Below.refl _ _⟩
set_option maxHeartbeats 400000 in
theorem meeting_none (p : Option Go.Addr) (c : Nat) (r : Rg) (w : World) :
    Calls Tryz.prog 43 #[.slice p 0 c, RV r] w (Gives (.tuple #[.int .i64 0, .int .i64 0]) w) := by
  have S1 := hide (fun (W : World) (g : FuncId) (cb : Array Value) => search_none g cb W)
  have H0 := keep_cell (below_alloc (w.alloc (.cells #[.slice p 0 c] 22)) (.cells #[.int .u64 (hi r.1 : Nat), .int .u64 (lo r.1 : Nat), .int .u64 (hi r.2 : Nat), .int .u64 (lo r.2 : Nat)] 36)) (p := ⟨w.heap.size, 0, none⟩) (v := .slice p 0 c) (by simp [go_sem])
  have B0 := chain (below_alloc w (.cells #[.slice p 0 c] 22)) (below_alloc _ (.cells #[.int .u64 (hi r.1 : Nat), .int .u64 (lo r.1 : Nat), .int .u64 (hi r.2 : Nat), .int .u64 (lo r.2 : Nat)] 36))
  go_enter Tryz.func43, Tryz.ntmps43
  go_wp2_with fail
  refine (S1.out _ _ _).mono ?_
  rintro e w1 ⟨rfl, hb1⟩
  have u := keep_cell hb1 H0
  have B1 := chain B0 hb1
  clear hb1 H0 B0
  go_wp2_with fail
  clear u
  refine (S1.out _ _ _).mono ?_
  rintro e w2 ⟨rfl, hb2⟩
  have B2 := chain B1 hb2
  clear hb2 B1
  go_wp2
  go_ret2
  exact ⟨rfl, B2⟩
theorem meeting_any {v : Value} {l : List Rg} {r : Rg} (hs : Snd l) (hl : l.length ≤ 1000000) (w : World) (h : Lst v l w) :
    Calls Tryz.prog 43 #[v, RV r] w (Gives (.tuple #[.int .i64 (fromS l r.1 : Nat), .int .i64 (toS l r.2 : Nat)]) w) := by
  rcases h with ⟨p, c, rfl, rfl, _⟩ | ⟨b, o, c, rfl, hr, _⟩
  · exact meeting_none p c r w
  · exact meeting_some hs hl w hr
end Go.Proofs.YtfmhpnendcikoaaGreat
