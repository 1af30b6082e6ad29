/-
  Contracts of the library's IndexFunc, ContainsFunc and Search at functions that may make memory, of buddy's own functions that they are given, of Fits and place. Conditions: the words are words of 64 bits, an int is an int of 64 bits; a slice has at most 1000000 prefixes.
-/
import Derived.Test.YtpieddddckbfdaaBuS
import Derived.Shelf.Abstract
namespace Go.Proofs.Ytpieddddckbfdaa
open Go.RowKit Go.Joins

def idxI (P : Bk → Bool) (l : List Bk) : Int := match l.findIdx? P with
  | some i => (i : Int)
  | none => -1
theorem idx_at {P : Bk → Bool} {l : List Bk} {k : Nat} {x : Bk} (hx : l[k]? = some x) (h : ∀ j, j < k → P (l.getD j (0, 0)) = false) (hp : P x = true) : idxI P l = (k : Int) := by
  obtain ⟨hk, he⟩ := List.getElem?_eq_some_iff.1 hx
  have : l.findIdx? P = some k := List.findIdx?_eq_some_iff_getElem.2 ⟨hk, by rw [he]; exact hp, fun j hj => by
    have := h j hj
    rw [List.getD_eq_getElem?_getD, List.getElem?_eq_getElem (show j < l.length by omega)] at this
    simpa using this⟩
  unfold idxI
  rw [this]
theorem idx_no {P : Bk → Bool} {l : List Bk} (h : ∀ j, j < l.length → P (l.getD j (0, 0)) = false) : idxI P l = -1 := by
  have : l.findIdx? P = none := List.findIdx?_eq_none_iff.2 fun x hx => by
    obtain ⟨j, hj, rfl⟩ := List.getElem_of_mem hx
    have := h j hj
    rw [List.getD_eq_getElem?_getD, List.getElem?_eq_getElem hj] at this
    simpa using this
  unfold idxI
  rw [this]
theorem idx_any (P : Bk → Bool) (l : List Bk) : decide (0 ≤ idxI P l) = l.any P := by
  unfold idxI
  cases h : l.findIdx? P with
  | none =>
    have := List.findIdx?_eq_none_iff.1 h
    rw [show l.any P = false from List.any_eq_false.2 (fun x hx => by simpa using this x hx)]
    rfl
  | some i =>
    obtain ⟨hi, h1, _⟩ := List.findIdx?_eq_some_iff_getElem.1 h
    rw [show l.any P = true from List.any_eq_true.2 ⟨_, List.getElem_mem hi, h1⟩]
    simp
set_option maxRecDepth 100000 in
set_option maxHeartbeats 1000000 in
theorem index_any (g : FuncId) (cb : Array Value) (P : Bk → Bool) {v : Value} {l : List Bk} (hl : l.length ≤ 1000000) (w : World) (hv : Lst v l w)
    (eg : ∀ args w, (callFunc g args).run Try.prog w = .ok (.enter g args) w)
    (hf : ∀ W, Below w.heap.size w W → ∀ x ∈ l, Calls Try.prog g (#[Bv x] ++ cb) W (Gives (.bool (P x)) W)) :
    Calls Try.prog 36 #[v, .func (.func g) #[] cb] w (Gives (.int .i64 (idxI P l)) w) := by
  have HF := hide hf
  have HV := hide (fun W (H : Below w.heap.size w W) => hv.step H)
  obtain ⟨q, c, rfl⟩ := lst_len hv
  clear hf hv
  go_enter Try.func36, Try.ntmps36
  go_wp2
  go_loopw [8] (fun i wr => ∃ k : Nat, k ≤ l.length ∧ i = .int .i64 (k : Nat) ∧ (∀ j, j < k → P (l.getD j (0, 0)) = false) ∧ Below w.heap.size w wr) (fun i _ => l.length - (intOf i).toNat)
  case atStart => exact ⟨0, Nat.zero_le _, rfl, fun j h => absurd h (Nat.not_lt_zero _), Below.refl _ _⟩
  case round =>
    obtain ⟨k, hk, rfl, hg, HB⟩ := hrel
    have HG := hide hg
    clear hg
    by_cases hlt : k < l.length
    · obtain ⟨x, hx⟩ := get_some hlt
      obtain ⟨b, o, rfl, _, x1, x2, x3⟩ := lst_at (HV.out _ HB) hx
      have hc := HF.out _ HB x (List.mem_of_getElem? hx)
      have GD := hide (getD_some hx)
      cases e : P x with
      | false =>
        rw [e] at hc
        have E := hide e
        clear e hx
        go_wp2_with (go_at_fn g; refine hc.mono ?_; rintro e w' ⟨rfl, hb⟩)
        go_roundw
        case rel =>
          refine ⟨k + 1, hlt, by go_num, fun j hj => ?_, chain HB hb⟩
          by_cases e : j = k
          · rw [e, GD.out]; exact E.out
          · exact HG.out j (by omega)
        case measure => simp [intOf]; omega
      | true =>
        rw [e] at hc
        have R := hide (idx_at hx HG.out e)
        clear e hx
        go_wp2_with (go_at_fn g; refine hc.mono ?_; rintro e w' ⟨rfl, hb⟩)
        go_ret
        exact ⟨congrArg Ending.returned (i64_eq R.out.symm), chain HB hb⟩
    · have R := hide (idx_no (P := P) (l := l) (fun i hi => HG.out i (by omega)))
      go_wp2
      go_ret
      exact ⟨congrArg Ending.returned (i64_eq R.out.symm), HB⟩
set_option maxHeartbeats 400000 in
theorem contains_any (g : FuncId) (cb : Array Value) (P : Bk → Bool) {v : Value} {l : List Bk} (hl : l.length ≤ 1000000) (w : World) (hv : Lst v l w)
    (eg : ∀ args w, (callFunc g args).run Try.prog w = .ok (.enter g args) w)
    (hf : ∀ W, Below w.heap.size w W → ∀ x ∈ l, Calls Try.prog g (#[Bv x] ++ cb) W (Gives (.bool (P x)) W)) :
    Calls Try.prog 31 #[v, .func (.func g) #[] cb] w (Gives (.bool (l.any P)) w) := by
  have IX := hide (index_any g cb P hl w hv eg hf)
  have R := hide (idx_any P l)
  clear hf eg
  obtain ⟨q, c, rfl⟩ := lst_len hv
  clear hv
  generalize idxI P l = n at *
  generalize l.any P = r at *
  go_enter Try.func31, Try.ntmps31
  go_wp2_with fail
  refine IX.out.mono ?_
  rintro e w' ⟨rfl, hb⟩
  go_wp2
  go_ret
  exact ⟨congrArg Ending.returned (bool_eq R.out), hb⟩

/-! ### the functions that are handed on -/
theorem enters_fits (args : Array Value) (w : World) : (callFunc 32 args).run Try.prog w = .ok (.enter 32 args) w := enters_of Try.func32 (by kernel_rfl) rfl args w
theorem enters_res (args : Array Value) (w : World) : (callFunc 37 args).run Try.prog w = .ok (.enter 37 args) w := enters_of Try.func37 (by kernel_rfl) rfl args w
theorem enters_give (args : Array Value) (w : World) : (callFunc 39 args).run Try.prog w = .ok (.enter 39 args) w := enters_of Try.func39 (by kernel_rfl) rfl args w
theorem enters_free (args : Array Value) (w : World) : (callFunc 44 args).run Try.prog w = .ok (.enter 44 args) w := enters_of Try.func44 (by kernel_rfl) rfl args w
theorem enters_place (args : Array Value) (w : World) : (callFunc 60 args).run Try.prog w = .ok (.enter 60 args) w := enters_of Try.func60 (by kernel_rfl) rfl args w
set_option maxHeartbeats 400000 in
theorem fits1_any {g : Nat} {bits : Int} (x : Bk) (w : World) (hg : w.cell? ⟨g, 0, none⟩ = some (.int .i64 bits)) (hl : g < w.heap.size) :
    Calls Try.prog 32 #[Bv x, .pointer (some ⟨g, 0, none⟩)] w (Gives (.bool (decide (x.2 ≤ bits))) w) := by
  go_enter Try.func32, Try.ntmps32
  go_wp2
  go_ret
  exact ⟨rfl, below_alloc _ _⟩
set_option maxHeartbeats 400000 in
theorem res1_any {g : Nat} {b : Bk} (fb : FitB b) (x : Bk) (w : World) (hg : Box g b w) :
    Calls Try.prog 37 #[Bv x, .pointer (some ⟨g, 0, none⟩)] w (Gives (.bool (covB x b)) w) := by
  have CV := hide (fun W => covers_any (p := x.1) fb.1 x.2 b.2 W)
  obtain ⟨hl, ⟨g1, g2, g3⟩, _⟩ := hg
  go_enter Try.func37, Try.ntmps37
  go_wp2_with fail
  refine (CV.out _).mono ?_
  rintro e w' ⟨rfl, hb⟩
  go_wp2
  go_ret
  exact ⟨rfl, chain (below_alloc _ _) hb⟩
set_option maxHeartbeats 400000 in
theorem give1_any {g : Nat} {b : Bk} (fb : FitB b) {x : Bk} (fx : FitB x) (w : World) (hg : Box g b w) :
    Calls Try.prog 39 #[Bv x, .pointer (some ⟨g, 0, none⟩)] w (Gives (.bool (metB x b)) w) := by
  have CV := hide (fun W => meets_any fx.1 fb.1 x.2 b.2 W)
  obtain ⟨hl, ⟨g1, g2, g3⟩, _⟩ := hg
  go_enter Try.func39, Try.ntmps39
  go_wp2_with fail
  refine (CV.out _).mono ?_
  rintro e w' ⟨rfl, hb⟩
  go_wp2
  go_ret
  exact ⟨rfl, chain (below_alloc _ _) hb⟩
set_option maxHeartbeats 400000 in
theorem free1_any {g : Nat} {b : Bk} {x : Bk} (fx : FitB x) (w : World) (hg : Box g b w) :
    Calls Try.prog 44 #[Bv x, .pointer (some ⟨g, 0, none⟩)] w (Gives (.bool (!covB b x)) w) := by
  have CV := hide (fun W => covers_any (p := b.1) fx.1 b.2 x.2 W)
  have R := hide (show coversS b.1 b.2 x.1 x.2 = covB b x from rfl)
  obtain ⟨hl, ⟨g1, g2, g3⟩, _⟩ := hg
  go_enter Try.func44, Try.ntmps44
  go_wp2_with fail
  refine (CV.out _).mono ?_
  rintro e w' ⟨rfl, hb⟩
  rw [R.out]
  go_wp2
  go_ret
  exact ⟨rfl, chain (below_alloc _ _) hb⟩
set_option maxHeartbeats 400000 in
theorem fits_any {v : Value} {l : List Bk} (hl : l.length ≤ 1000000) (bits : Int) (w : World) (hv : Lst v l w) :
    Calls Try.prog 10 #[v, .int .i64 bits] w (Gives (.bool (fitsL l bits)) w) := by
  have B0 := below_alloc w (.cells #[.int .i64 bits] 3)
  have C0 : (w.alloc (.cells #[.int .i64 bits] 3)).cell? ⟨w.heap.size, 0, none⟩ = some (.int .i64 bits) := by simp [go_sem]
  have Z0 : w.heap.size < (w.alloc (.cells #[.int .i64 bits] 3)).heap.size := by simp
  have CF := hide (contains_any 32 #[.pointer (some ⟨w.heap.size, 0, none⟩)] (fun x => decide (x.2 ≤ bits)) hl _ (hv.step B0) enters_fits
    (fun W HB x _ => fits1_any x W (keep_cell HB C0) (Nat.lt_of_lt_of_le Z0 HB.size)))
  obtain ⟨q, c, rfl⟩ := lst_len hv
  clear hv C0 Z0
  have R := hide (show l.any (fun x => decide (x.2 ≤ bits)) = fitsL l bits from rfl)
  generalize fitsL l bits = r at *
  go_enter Try.func10, Try.ntmps10
  go_wp2_with fail
  refine CF.out.mono ?_
  rintro e w' ⟨rfl, hb⟩
  rw [R.out]
  go_wp2
  go_ret
  exact ⟨rfl, chain B0 hb⟩

/-! ### the place in a list -/
theorem half_bits (lo hi : Nat) : ((lo : Int) + (hi : Int)) / 2 = (((lo + hi) / 2 : Nat) : Int) := by omega
set_option maxRecDepth 100000 in
set_option maxHeartbeats 1000000 in
theorem search_any (g : FuncId) (cb : Array Value) (n k : Nat) (p : Nat → Bool) (hn : n ≤ 1000000) (hk : k ≤ n) (h1 : ∀ i, i < k → p i = false) (h2 : ∀ i, k ≤ i → i < n → p i = true) (w : World)
    (eg : ∀ args w, (callFunc g args).run Try.prog w = .ok (.enter g args) w)
    (hf : ∀ W, Below w.heap.size w W → ∀ i : Nat, i < n → Calls Try.prog g (#[.int .i64 i] ++ cb) W (Gives (.bool (p i)) W)) :
    Calls Try.prog 59 #[.int .i64 n, .func (.func g) #[] cb] w (Gives (.int .i64 k) w) := by
  have HF := hide hf
  have H1 := hide h1
  have H2 := hide h2
  clear hf h1 h2
  go_enter Try.func59, Try.ntmps59
  go_wp2
  go_loopg [5, 6] n (fun kx s5 s6 wr => ∃ (lo hi : Nat), s5 = .int .i64 lo ∧ s6 = .int .i64 hi ∧ lo ≤ k ∧ k ≤ hi ∧ hi ≤ n ∧ hi - lo ≤ kx ∧ Below w.heap.size w wr)
  case atStart => exact ⟨0, n, rfl, rfl, Nat.zero_le _, hk, Nat.le_refl _, by omega, Below.refl _ _⟩
  case round =>
    obtain ⟨lo, hi, rfl, rfl, hlk, hkh, hin, hg, HB⟩ := hrel
    by_cases hlt : lo < hi
    · have hc := HF.out _ HB ((lo + hi) / 2) (by omega)
      rw [← half_bits] at hc
      by_cases hm : (lo + hi) / 2 < k
      · rw [H1.out _ hm] at hc
        go_wp2_with (go_at_fn g; refine hc.mono ?_; rintro e w' ⟨rfl, hb⟩)
        go_roundg (hi - ((lo + hi) / 2 + 1))
        case rel => exact ⟨(lo + hi) / 2 + 1, hi, by go_num, rfl, by omega, hkh, hin, by omega, chain HB hb⟩
        case measure => omega
      · rw [H2.out _ (by omega) (by omega)] at hc
        go_wp2_with (go_at_fn g; refine hc.mono ?_; rintro e w' ⟨rfl, hb⟩)
        go_roundg ((lo + hi) / 2 - lo)
        case rel => exact ⟨lo, (lo + hi) / 2, rfl, by rw [half_bits], hlk, by omega, by omega, by omega, chain HB hb⟩
        case measure => omega
    · obtain rfl : lo = k := by omega
      go_wp2
      go_ret
      exact ⟨rfl, HB⟩
/-- what place's function holds: the slice, the address and the row -/
def HM (gs ga : Nat) (v : Value) (l : List Bk) (a : Nat) (W : World) : Prop := W.cell? ⟨gs, 0, none⟩ = some v ∧ W.cell? ⟨ga, 0, none⟩ = some (.int .u64 (hi a : Nat)) ∧ W.cell? ⟨ga, 1, none⟩ = some (.int .u64 (lo a : Nat)) ∧ Lst v l W
theorem HM.step {gs ga : Nat} {v : Value} {l : List Bk} {a : Nat} {W w2 : World} (h : HM gs ga v l a W) (hb : Below W.heap.size W w2) : HM gs ga v l a w2 := ⟨keep_cell hb h.1, keep_cell hb h.2.1, keep_cell hb h.2.2.1, h.2.2.2.step hb⟩
def HMw (w : World) (gs ga : Nat) (v : Value) (l : List Bk) (a : Nat) (W : World) : Prop := Below w.heap.size w W ∧ HM gs ga v l a W
theorem HMw.step {w : World} {gs ga : Nat} {v : Value} {l : List Bk} {a : Nat} {W w2 : World} (h : HMw w gs ga v l a W) (hb : Below W.heap.size W w2) : HMw w gs ga v l a w2 := ⟨h.1.trans (hb.mono h.1.size), h.2.step hb⟩
theorem HMw.drew {w : World} {gs ga : Nat} {v : Value} {l : List Bk} {a : Nat} {W : World} (h : HMw w gs ga v l a W) : HMw w gs ga v l a { W with drawn := W.drawn + 1 } := h.step (Below.refl _ _).drew
set_option maxRecDepth 100000 in
set_option maxHeartbeats 400000 in
theorem place1_any {gs ga : Nat} {v : Value} {l : List Bk} {a i : Nat} {x : Bk} (hx : l[i]? = some x) (_hl : l.length ≤ 1000000) (w : World) (h : HM gs ga v l a w) :
    Calls Try.prog 60 #[.int .i64 (i : Nat), .pointer (some ⟨gs, 0, none⟩), .pointer (some ⟨ga, 0, none⟩)] w (Gives (.bool (decide (a ≤ x.1))) w) := by
  have hi := lt_of_some hx
  have CM := hide (fun W => cmp_any x.1 a W)
  have R := hide (cmp_ge x.1 a)
  obtain ⟨q, c, rfl⟩ := lst_len h.2.2.2
  obtain ⟨b, o, rfl, _⟩ := lst_at h.2.2.2 hx
  have HX := hide (fun W (H : HMw w gs ga (.slice (some ⟨b, o, none⟩) l.length c) l a W) => lst_at H.2.2.2.2 hx)
  have P0 : i < l.length := hi
  have H0 : HMw w gs ga (.slice (some ⟨b, o, none⟩) l.length c) l a w := ⟨Below.refl _ _, h⟩
  clear hx h
  go_enter Try.func60, Try.ntmps60
  go_wp2_with fail
  refine wp_region_quiet (C := HMw w gs ga (.slice (some ⟨b, o, none⟩) l.length c) l a) (by kernel_rfl) (by kernel_rfl) H0.drew (wpQuiet_step (fun K0 hK0 => ?_))
  go_simp
  refine ⟨.slice (some ⟨b, o, none⟩) l.length c, fun W hW => ?_, hK0 _ (wpQuiet_step (fun K1 hK1 => ?_))⟩
  · ((have u := hW.2.1; simp [go_sem, u]))
  clear hK0 K0
  go_simp
  first | (with_reducible refine hK1 _ (wpQuiet_step (fun K0 hK0 => ?_))) | (with_reducible refine ⟨_, fun _ _ => rfl, hK1 _ (wpQuiet_step (fun K0 hK0 => ?_))⟩) | (rw [if_neg (by intro e; cases e)]; with_reducible refine hK1 _ (wpQuiet_step (fun K0 hK0 => ?_)))
  clear hK1 K1
  go_simp
  first | (with_reducible refine hK0 _ (wpQuiet_step (fun K1 hK1 => ?_))) | (with_reducible refine ⟨_, fun _ _ => rfl, hK0 _ (wpQuiet_step (fun K1 hK1 => ?_))⟩) | (rw [if_neg (by intro e; cases e)]; with_reducible refine hK0 _ (wpQuiet_step (fun K1 hK1 => ?_)))
  clear hK0 K0
  go_simp
  first | (with_reducible refine hK1 _ (wpQuiet_step (fun K0 hK0 => ?_))) | (with_reducible refine ⟨_, fun _ _ => rfl, hK1 _ (wpQuiet_step (fun K0 hK0 => ?_))⟩) | (rw [if_neg (by intro e; cases e)]; with_reducible refine hK1 _ (wpQuiet_step (fun K0 hK0 => ?_)))
  clear hK1 K1
  go_simp
  refine ⟨A x.1, fun W hW => ?_, hK0 _ (wpQuiet_step (fun K1 hK1 => ?_))⟩
  · ((obtain ⟨_, _, eb, _, u0, u1, u2⟩ := HX.out W hW; cases eb; simp [go_sem, u0, u1]))
  clear hK0 K0
  go_simp
  refine ⟨A a, fun W hW => ?_, hK1 _ (wpQuiet_step (fun K0 hK0 => ?_))⟩
  · ((obtain ⟨_, _, u0, u1, _⟩ := hW; simp [go_sem, u0, u1]))
  clear hK1 K1
  go_simp
  refine ⟨.int .i64 (cmpS x.1 a), fun W hW => ?_, hK0 _ (wpQuiet_step (fun K1 hK1 => ?_))⟩
  · exact (CM.out W).mono fun e w2 ⟨he, hb⟩ => ⟨he, HMw.step hW hb⟩
  clear hK0 K0
  go_simp
  first | (with_reducible refine hK1 _ (wpQuiet_step (fun K0 hK0 => ?_))) | (with_reducible refine ⟨_, fun _ _ => rfl, hK1 _ (wpQuiet_step (fun K0 hK0 => ?_))⟩) | (rw [if_neg (by intro e; cases e)]; with_reducible refine hK1 _ (wpQuiet_step (fun K0 hK0 => ?_)))
  clear hK1 K1
  go_simp
  first | (with_reducible refine hK0 _ (wpQuiet_nil ?_)) | (with_reducible refine ⟨_, fun _ _ => rfl, hK0 _ (wpQuiet_nil ?_)⟩) | (rw [if_neg (by intro e; cases e)]; with_reducible refine hK0 _ (wpQuiet_nil ?_))
  clear hK0 K0
  intro w2 H2
  go_wp2
  go_ret
  exact ⟨congrArg Ending.returned (bool_eq R.out), H2.1⟩
theorem place_no {l : List Bk} {a i : Nat} (h : i < placeN l a) : decide (a ≤ (l.getD i (0, 0)).1) = false := by
  have e := below_from l a
  unfold placeN at h
  have hx : (belowL l a)[i] ∈ belowL l a := List.getElem_mem h
  have := below_lt hx
  have hi : l[i]? = some (belowL l a)[i] := by
    conv => lhs; rw [← e]
    rw [List.getElem?_append_left h, List.getElem?_eq_getElem h]
  rw [getD_some hi, decide_eq_false_iff_not]
  omega
theorem place_yes {l : List Bk} (hs : l.Pairwise (fun x y => x.1 ≤ y.1)) {a i : Nat} (h : placeN l a ≤ i) (hi : i < l.length) : decide (a ≤ (l.getD i (0, 0)).1) = true := by
  have e := below_from l a
  have hlen := congrArg List.length e
  rw [List.length_append] at hlen
  unfold placeN at h
  have hx : (fromL l a)[i - (belowL l a).length]'(by omega) ∈ fromL l a := List.getElem_mem _
  have := from_ge hs _ hx
  have hi : l[i]? = some ((fromL l a)[i - (belowL l a).length]'(by omega)) := by
    conv => lhs; rw [← e]
    rw [List.getElem?_append_right h, List.getElem?_eq_getElem (by omega)]
  rw [getD_some hi, decide_eq_true_iff]
  exact this
set_option maxHeartbeats 400000 in
theorem place_any {v : Value} {l : List Bk} (hs : l.Pairwise (fun x y => x.1 ≤ y.1)) (hl : l.length ≤ 1000000) (a : Nat) (w : World) (hv : Lst v l w) :
    Calls Try.prog 41 #[v, A a] w (Gives (.int .i64 (placeN l a : Nat)) w) := by
  obtain ⟨q, c, rfl⟩ := lst_len hv
  have B0 := below_alloc w (.cells #[.slice q l.length c] 27)
  have B1 := below_alloc (w.alloc (.cells #[.slice q l.length c] 27)) (.cells #[.int .u64 (hi a : Nat), .int .u64 (lo a : Nat)] 24)
  have H0 : HM w.heap.size (w.heap.size + 1) (.slice q l.length c) l a ((w.alloc (.cells #[.slice q l.length c] 27)).alloc (.cells #[.int .u64 (hi a : Nat), .int .u64 (lo a : Nat)] 24)) := by
    refine ⟨?_, ?_, ?_, (hv.step B0).step B1⟩ <;> simp [go_sem]
  have SE := hide (search_any 60 #[.pointer (some ⟨w.heap.size, 0, none⟩), .pointer (some ⟨w.heap.size + 1, 0, none⟩)] l.length (placeN l a) (fun i => decide (a ≤ (l.getD i (0, 0)).1)) hl (place_le l a) (fun i hi => place_no hi) (fun i h1 h2 => place_yes hs h1 h2) _ enters_place
    (fun W HB i hi => place1_any (getD_mem hi) hl W (H0.step HB)))
  have HB := chain B0 B1
  clear B0 B1 hv
  generalize placeN l a = n at *
  obtain ⟨z0, z1, z2, _⟩ := id H0
  go_enter Try.func41, Try.ntmps41
  go_wp2_with fail
  refine SE.out.mono ?_
  rintro e w' ⟨rfl, hb⟩
  go_wp2
  go_ret
  exact ⟨rfl, chain HB hb⟩
end Go.Proofs.Ytpieddddckbfdaa
