/-
  Rows of ranges that a call owns; contracts of slices.Grow and slices.Concat at ranges. Conditions: the words are words of 64 bits; at most 1000000 ranges in all.
-/
import Derived.Test.YtbcdmnlkbghkpaaSpanT
import Derived.Lib.AppendZeros
import Derived.Laws.AppendOwnNone
namespace Go.Proofs.Ytbcdmnlkbghkpaa
open Go.RowKit Go.Joins

theorem infoR : (Try.prog.info? 27).map (fun i => (i.zero, i.size, i.bytes)) = some (some (.agg #[.int .u64 0, .int .u64 0, .int .u64 0, .int .u64 0]), 4, 32) := by kernel_rfl
def cells4 (x : Rg) : List Value := [.int .u64 (hi x.1 : Nat), .int .u64 (lo x.1 : Nat), .int .u64 (hi x.2 : Nat), .int .u64 (lo x.2 : Nat)]
def cellsR (l : List Rg) : List Value := l.flatMap cells4
theorem cellsR_cons (x : Rg) (l : List Rg) : cellsR (x :: l) = cells4 x ++ cellsR l := by unfold cellsR; rw [List.flatMap_cons]
theorem cellsR_append (l m : List Rg) : cellsR (l ++ m) = cellsR l ++ cellsR m := by unfold cellsR; rw [List.flatMap_append]
theorem cellsR_len (l : List Rg) : (cellsR l).length = l.length * 4 := by
  induction l with
  | nil => rfl
  | cons x r ih => rw [cellsR_cons, List.length_append, ih, List.length_cons]; simp [cells4]; omega
theorem cellsR_at {l : List Rg} {j : Nat} {x : Rg} (h : l[j]? = some x) (i : Nat) (hi : i < 4) : (cellsR l)[j * 4 + i]? = (cells4 x)[i]? := by
  induction l generalizing j with
  | nil => simp at h
  | cons y r ih =>
    rw [cellsR_cons]
    cases j with
    | zero =>
      simp at h; subst h
      rw [Nat.zero_mul, Nat.zero_add, List.getElem?_append_left (by simp [cells4]; omega)]
    | succ j =>
      rw [List.getElem?_append_right (by simp [cells4]; omega), show (j + 1) * 4 + i - (cells4 y).length = j * 4 + i by simp [cells4]; omega]
      exact ih (by simpa using h)
theorem cellsR_one (l : List Rg) : ∀ u ∈ cellsR l, u.oneCell' = true := by
  intro u hu
  unfold cellsR at hu
  obtain ⟨x, _, hx⟩ := List.mem_flatMap.1 hu
  simp only [cells4, List.mem_cons, List.not_mem_nil, or_false] at hx
  rcases hx with rfl | rfl | rfl | rfl <;> rfl
theorem add_at (b o j : Nat) : (⟨b, o, none⟩ : Go.Addr).add j = ⟨b, o + j, none⟩ := by cases j <;> simp [Addr.add]
theorem row_cells {b o : Nat} {l : List Rg} {W : World} (h : RowR b o l W) : ∀ (j : Nat) (u : Value), (cellsR l)[j]? = some u → W.cell? ((⟨b, o, none⟩ : Go.Addr).add j) = some u := by
  intro j u hj
  have hl : j < l.length * 4 := by
    rcases Nat.lt_or_ge j (cellsR l).length with h' | h'
    · rwa [cellsR_len] at h'
    · rw [List.getElem?_eq_none h'] at hj; cases hj
  obtain ⟨x, hx⟩ := get_some (show j / 4 < l.length by omega)
  have hc := cellsR_at hx (j % 4) (by omega)
  rw [show j / 4 * 4 + j % 4 = j by omega, hj] at hc
  obtain ⟨a0, a1, a2, a3⟩ := h.2 _ x hx
  rw [add_at]
  have : j % 4 = 0 ∨ j % 4 = 1 ∨ j % 4 = 2 ∨ j % 4 = 3 := by omega
  rcases this with e | e | e | e
  · rw [e] at hc; simp [cells4] at hc; subst hc; rw [show o + j = o + j / 4 * 4 by omega]; exact a0
  · rw [e] at hc; simp [cells4] at hc; subst hc; rw [show o + j = o + j / 4 * 4 + 1 by omega]; exact a1
  · rw [e] at hc; simp [cells4] at hc; subst hc; rw [show o + j = o + j / 4 * 4 + 2 by omega]; exact a2
  · rw [e] at hc; simp [cells4] at hc; subst hc; rw [show o + j = o + j / 4 * 4 + 3 by omega]; exact a3
/-- a slice of the call's own that reads as a list -/
abbrev Own (w : World) (base : Nat) (v : Value) (l : List Rg) : Prop := w.ownsRow base 27 4 v l.length (cellsR l)
theorem own_lst {W : World} {base : Nat} {v : Value} {l : List Rg} (h : Own W base v l) : Lst v l W := by
  rcases h.2 with ⟨rfl, hn⟩ | ⟨g, cap, cur, rfl, hb, hg, hnc, hm, hcs, ht⟩
  · exact Or.inl ⟨none, 0, rfl, List.length_eq_zero_iff.1 hn, fun _ => rfl, by omega⟩
  · have hcap : cap ≤ 9223372036854775807 := by unfold maxLen at hm; exact hm
    by_cases hl : l = []
    · subst hl
      exact Or.inl ⟨_, cap, rfl, rfl, fun e => (by cases e), hcap⟩
    · have gl : g < W.heap.size := by
        rcases Nat.lt_or_ge g W.heap.size with h' | h'
        · exact h'
        · rw [Array.getElem?_eq_none h'] at hg; cases hg
      have A : ∀ (j : Nat) (u : Value), (cellsR l)[j]? = some u → W.cell? ⟨g, j, none⟩ = some u := by
        intro j u hu
        have := h.cells (g := g) rfl j u hu
        rwa [add_at, Nat.zero_add] at this
      refine Or.inr ⟨g, 0, cap, rfl, ⟨gl, fun j x hx => ?_⟩, hnc, hl, hcap⟩
      have C := fun i hi => cellsR_at hx i hi
      refine ⟨A _ _ ?_, A _ _ ?_, A _ _ ?_, A _ _ ?_⟩
      · have := C 0 (by omega); simpa [cells4] using this
      · have := C 1 (by omega); simpa [cells4] using this
      · have := C 2 (by omega); simpa [cells4] using this
      · have := C 3 (by omega); simpa [cells4] using this

/-- what Grow gives: an empty slice of the call's own -/
def Grown (w : World) (e : Ending) (w' : World) : Prop := ∃ v, e = .returned v ∧ Below w.heap.size w w' ∧ Own w' w.heap.size v []
set_option maxRecDepth 100000 in
set_option maxHeartbeats 1000000 in
theorem grow_any (n : Nat) (h0 : 0 < n) (hn : n ≤ 10000000) (w : World) :
    Calls Try.prog 59 #[.slice none 0 0, .int .i64 n] w (Grown w) := by
  obtain ⟨i0, hi, hz0, hz1, hz2⟩ := info_parts infoR
  have P0 : ¬ (n : Int) < 0 := by omega
  have hr := Lib.run_append_nil_zeros (P := Try.prog) w 22 3 22 27 i0 _ .i64 .i64 Try.underlying22 Try.underlying3 hi hz0 n h0 (by omega) (by omega) (by rw [hz2]; omega)
  have c1 := grownCap_ge w n 0 27
  have c2 := grownCap_le_maxLen w n 0 27 (by unfold maxLen; omega)
  have ho := fun cs (hs : cs.size = grownCap w n 0 27 * 4) => World.ownsRow_made (e := 27) (size := 4) (base := w.heap.size) w.drew cs (grownCap w n 0 27) (Nat.le_refl _) c2 hs
  have hcs : (Builtin.zeroCells (Value.agg #[.int .u64 0, .int .u64 0, .int .u64 0, .int .u64 0]).cells n ++ Builtin.zeroCells (Value.agg #[.int .u64 0, .int .u64 0, .int .u64 0, .int .u64 0]).cells (grownCap w n 0 27 - n)).size = grownCap w n 0 27 * 4 := by
    rw [Array.size_append, size_zeroCells, size_zeroCells, show (Value.agg #[.int .u64 0, .int .u64 0, .int .u64 0, .int .u64 0]).cells.size = 4 from rfl]
    omega
  have HO := ho _ hcs
  clear ho hcs
  generalize Builtin.zeroCells (Value.agg #[.int .u64 0, .int .u64 0, .int .u64 0, .int .u64 0]).cells n ++ Builtin.zeroCells (Value.agg #[.int .u64 0, .int .u64 0, .int .u64 0, .int .u64 0]).cells (grownCap w n 0 27 - n) = cs at hr HO
  unfold maxLen at c2
  generalize grownCap w n 0 27 = cap at *
  go_enter Try.func59, Try.ntmps59
  go_wp2_with (at_builtin; refine Lib.wpList_append_run _ rfl _ _ _ _ rfl _ _ rfl rfl _ _ hr ?_)
  clear hr
  go_wp2
  go_ret
  refine ⟨_, rfl, ?_, HO⟩
  exact ((Below.refl _ _).drew).alloc (by simp) _

/-- the slices that Concat is given, and their lists -/
def Parts (g : Nat) (vs : List Value) (ls : List (List Rg)) (W : World) : Prop := g < W.heap.size ∧ vs.length = ls.length ∧ (∀ (j : Nat) (v : Value), vs[j]? = some v → W.cell? ⟨g, j, none⟩ = some v) ∧ ∀ (j : Nat) (v : Value) (l : List Rg), vs[j]? = some v → ls[j]? = some l → Lst v l W
theorem Parts.step {g : Nat} {vs : List Value} {ls : List (List Rg)} {W w2 : World} (h : Parts g vs ls W) (hb : Below W.heap.size W w2) : Parts g vs ls w2 :=
  ⟨Nat.lt_of_lt_of_le h.1 hb.size, h.2.1, fun j v hj => keep_cell hb (h.2.2.1 j v hj), fun j v l hv hl => (h.2.2.2 j v l hv hl).step hb⟩
def sumLen : List (List Rg) → Nat
  | [] => 0
  | l :: r => l.length + sumLen r
theorem sumLen_snoc : ∀ (ls : List (List Rg)) (l : List Rg), sumLen (ls ++ [l]) = sumLen ls + l.length
  | [], l => by simp [sumLen]
  | m :: r, l => by rw [List.cons_append]; unfold sumLen; rw [sumLen_snoc r l]; omega
theorem sumLen_le : ∀ (ls : List (List Rg)) (k : Nat), sumLen (ls.take k) ≤ sumLen ls
  | [], k => by simp [sumLen]
  | m :: r, 0 => by simp [sumLen]
  | m :: r, k + 1 => by rw [List.take_succ_cons]; unfold sumLen; have := sumLen_le r k; omega
theorem sumLen_flat : ∀ ls : List (List Rg), ls.flatten.length = sumLen ls
  | [] => rfl
  | m :: r => by rw [List.flatten_cons, List.length_append, sumLen_flat r]; rfl
/-- a value that the call made, that reads as a list -/
def Makes (l : List Rg) (w : World) (e : Ending) (w' : World) : Prop := ∃ v, e = .returned v ∧ Below w.heap.size w w' ∧ Own w' w.heap.size v l
theorem take_next {ls : List (List Rg)} {k : Nat} {l : List Rg} (h : ls[k]? = some l) : ls.take (k + 1) = ls.take k ++ [l] := by rw [List.take_add_one, h]; rfl
theorem base_le {w : World} {base g n cap size : Nat} {e : TypeId} {xs : List Value} (h : w.ownsRow base e size (.slice (some ⟨g, 0, none⟩) n cap) n xs) : base ≤ g := (h.lt g rfl).1
set_option maxRecDepth 100000 in
set_option maxHeartbeats 1000000 in
theorem concat_any {g N : Nat} {vs : List Value} {ls : List (List Rg)} (hN : vs.length = N) (hN1 : N ≤ 1000) (hs : sumLen ls ≤ 1000000) (h0 : 0 < sumLen ls) (w : World) (hp : Parts g vs ls w) :
    Calls Try.prog 39 #[.slice (some ⟨g, 0, none⟩) N N] w (Makes ls.flatten w) := by
  obtain ⟨i0, hi, hz0, hz1, hz2⟩ := info_parts infoR
  have hlen := hp.2.1
  go_enter Try.func39, Try.ntmps39
  go_wp2
  go_loop [3, 11] (fun q i => ∃ k : Nat, k ≤ N ∧ i = .int .i64 (k : Nat) ∧ q = .int .i64 (sumLen (ls.take k) : Nat)) (fun _ i => N - (intOf i).toNat)
  case atStart => exact ⟨0, Nat.zero_le _, rfl, rfl⟩
  case round =>
    obtain ⟨k, hk, rfl, rfl⟩ := hrel
    by_cases hlt : k < N
    · obtain ⟨v, hv⟩ : ∃ v, vs[k]? = some v := ⟨_, List.getElem?_eq_getElem (by omega)⟩
      obtain ⟨l, hl⟩ : ∃ l, ls[k]? = some l := ⟨_, List.getElem?_eq_getElem (by omega)⟩
      have C := hp.2.2.1 k v hv
      obtain ⟨p, c, rfl⟩ := lst_len (hp.2.2.2 k v l hv hl)
      have SN := hide (show sumLen (ls.take (k + 1)) = sumLen (ls.take k) + l.length by rw [take_next hl, sumLen_snoc])
      have SL := sumLen_le ls (k + 1)
      rw [SN.out] at SL
      clear hv hl
      generalize sumLen (ls.take k) = q at *
      go_wp2_with fail
      go_round
      case rel => exact ⟨k + 1, hlt, by go_num, by rw [SN.out]; go_num⟩
      case measure => simp [intOf]; omega
    · have e : ls.take k = ls := List.take_of_length_le (by omega)
      rw [e]
      have GA := hide (fun W => grow_any (sumLen ls) h0 (by omega) W)
      generalize hq : sumLen ls = q at *
      have HQ := hide hq
      clear hq
      go_wp2_with fail
      refine (GA.out _).mono ?_
      rintro e w1 ⟨v, rfl, hb1, hown⟩
      have P1 := hp.step hb1
      go_wp2
      clear P1
      go_loopw [6, 27] (fun s6 i wr => ∃ (k : Nat) (v' : Value), k ≤ N ∧ i = .int .i64 (k : Nat) ∧ v' = s6 ∧ Below w.heap.size w wr ∧ Own wr w.heap.size v' ((ls.take k).flatten)) (fun _ i _ => N - (intOf i).toNat)
      case atStart => exact ⟨0, v, Nat.zero_le _, rfl, rfl, hb1, hown⟩
      clear hown hb1
      case round =>
        obtain ⟨k, v', hk, rfl, rfl, HB, hown⟩ := hrel
        by_cases hlt : k < N
        · obtain ⟨y, hy⟩ : ∃ v, vs[k]? = some v := ⟨_, List.getElem?_eq_getElem (by omega)⟩
          obtain ⟨l, hl⟩ : ∃ l, ls[k]? = some l := ⟨_, List.getElem?_eq_getElem (by omega)⟩
          have C := (hp.step HB).2.2.1 k y hy
          have L := (hp.step HB).2.2.2 k y l hy hl
          have TN := hide (show (ls.take (k + 1)).flatten = (ls.take k).flatten ++ l by rw [take_next hl, List.flatten_append]; simp)
          have SL : (ls.take k).flatten.length + l.length ≤ 1000000 := by
            have h1 := sumLen_le ls (k + 1)
            have h2 := sumLen_flat (ls.take (k + 1))
            rw [TN.out, List.length_append] at h2
            rw [HQ.out] at h1
            omega
          clear hy hl
          generalize (ls.take k).flatten = pre at TN SL hown
          rcases L with ⟨p, c, rfl, rfl, hpc, _⟩ | ⟨b, o, c, rfl, hr, _⟩
          · cases p with
            | none =>
              obtain rfl := hpc rfl
              have hown3 : Own wr w.heap.size v' ((ls.take (k + 1)).flatten) := by
                rw [TN.out, List.append_nil]
                exact hown
              go_wp2_with (at_builtin; refine wpList_append_own_none rfl (.tmp 31) (.tmp 32) 22 rfl w.heap.size 27 i0 4 Try.underlying22 hi _ _ _ rfl hown rfl ?_)
              go_wp2
              go_roundw
              case rel => exact ⟨k + 1, v', hlt, by go_num, rfl, HB, hown3⟩
              case measure => simp [intOf]; omega
            | some ad =>
              go_wp2_with (at_builtin; refine wpList_append_own _ rfl (.tmp 31) (.tmp 32) 22 rfl w.heap.size 27 i0 (.agg #[.int .u64 0, .int .u64 0, .int .u64 0, .int .u64 0]) 4 32 Try.underlying22 hi hz0 hz1 hz2 rfl (by decide) _ _ _ rfl hown ad 0 _ [] rfl rfl (fun j u h => by simp at h) (fun u h => by simp at h) ?c1 ?c2 ?c3 ?_)
              case c1 => unfold maxLen; omega
              case c2 => omega
              case c3 => exact HB.size
              intro v2 w2 hown2 hgrow2 _
              have HB2 := HB.grown hgrow2 (by have := HB.size; omega) (fun j hj => (hown.lt j hj).1)
              have hown3 : Own w2 w.heap.size v2 ((ls.take (k + 1)).flatten) := by
                rw [TN.out, List.append_nil]
                exact hown2
              clear hown2 hgrow2 hown HB TN
              go_wp2
              go_roundw
              case rel => exact ⟨k + 1, v2, hlt, by go_num, rfl, HB2, hown3⟩
              case measure => simp [intOf]; omega
          · go_wp2_with (at_builtin; refine wpList_append_own _ rfl (.tmp 31) (.tmp 32) 22 rfl w.heap.size 27 i0 (.agg #[.int .u64 0, .int .u64 0, .int .u64 0, .int .u64 0]) 4 32 Try.underlying22 hi hz0 hz1 hz2 rfl (by decide) _ _ _ rfl hown ⟨b, o, none⟩ l.length _ (cellsR l) rfl (cellsR_len l) (row_cells hr) (cellsR_one l) ?c1 ?c2 ?c3 ?_)
            case c1 => unfold maxLen; omega
            case c2 => omega
            case c3 => exact HB.size
            intro v2 w2 hown2 hgrow2 _
            have HB2 := HB.grown hgrow2 (by have := HB.size; omega) (fun j hj => (hown.lt j hj).1)
            have hown3 : Own w2 w.heap.size v2 ((ls.take (k + 1)).flatten) := by
              rw [TN.out]
              unfold Own
              rw [List.length_append, cellsR_append]
              exact hown2
            clear hown2 hgrow2 hown HB TN
            go_wp2
            go_roundw
            case rel => exact ⟨k + 1, v2, hlt, by go_num, rfl, HB2, hown3⟩
            case measure => simp [intOf]; omega
        · have e : ls.take k = ls := List.take_of_length_le (by omega)
          rw [e] at hown
          clear e
          go_wp2
          go_ret
          exact ⟨_, rfl, HB, hown⟩
end Go.Proofs.Ytbcdmnlkbghkpaa
