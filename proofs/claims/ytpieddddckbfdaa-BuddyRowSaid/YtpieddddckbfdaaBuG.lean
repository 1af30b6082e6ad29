/-
  Contracts of the library's Grow, Concat and Clone for prefixes. Conditions: the words are words of 64 bits, an int is an int of 64 bits; at most 1000000 prefixes in all.
-/
import Derived.Test.YtpieddddckbfdaaBuI
import Derived.Lib.SliceRun
namespace Go.Proofs.Ytpieddddckbfdaa
open Go.RowKit Go.Joins

/-- what Grow gives: an empty slice of the call's own -/
def Grown (w : World) (e : Ending) (w' : World) : Prop := ∃ v, e = .returned v ∧ Below w.heap.size w w' ∧ Own w' w.heap.size v []
set_option maxRecDepth 100000 in
set_option maxHeartbeats 1000000 in
theorem grow_pos (n : Nat) (h0 : 0 < n) (hn : n ≤ 10000000) (w : World) :
    Calls Try.prog 71 #[.slice none 0 0, .int .i64 n] w (Grown w) := by
  obtain ⟨i0, hi, hz0, hz1, hz2⟩ := info_parts infoP
  have P0 : ¬ (n : Int) < 0 := by omega
  have hr := Lib.run_append_nil_zeros (P := Try.prog) w 27 3 27 26 i0 _ .i64 .i64 Try.underlying27 Try.underlying3 hi hz0 n h0 (by omega) (by omega) (by rw [hz2]; omega)
  have c1 := grownCap_ge w n 0 26
  have c2 := grownCap_le_maxLen w n 0 26 (by unfold maxLen; omega)
  have ho := fun cs (hs : cs.size = grownCap w n 0 26 * 3) => World.ownsRow_made (e := 26) (size := 3) (base := w.heap.size) w.drew cs (grownCap w n 0 26) (Nat.le_refl _) c2 hs
  have hcs : (Builtin.zeroCells (Value.agg #[.int .u64 0, .int .u64 0, .int .i64 0]).cells n ++ Builtin.zeroCells (Value.agg #[.int .u64 0, .int .u64 0, .int .i64 0]).cells (grownCap w n 0 26 - n)).size = grownCap w n 0 26 * 3 := by
    rw [Array.size_append, size_zeroCells, size_zeroCells, show (Value.agg #[.int .u64 0, .int .u64 0, .int .i64 0]).cells.size = 3 from rfl]
    omega
  have HO := ho _ hcs
  clear ho hcs
  generalize Builtin.zeroCells (Value.agg #[.int .u64 0, .int .u64 0, .int .i64 0]).cells n ++ Builtin.zeroCells (Value.agg #[.int .u64 0, .int .u64 0, .int .i64 0]).cells (grownCap w n 0 26 - n) = cs at hr HO
  unfold maxLen at c2
  generalize grownCap w n 0 26 = cap at *
  go_enter Try.func71, Try.ntmps71
  go_wp2_with (at_builtin; refine Lib.wpList_append_run _ rfl _ _ _ _ rfl _ _ rfl rfl _ _ hr ?_)
  clear hr
  go_wp2
  go_ret
  refine ⟨_, rfl, ?_, HO⟩
  exact ((Below.refl _ _).drew).alloc (by simp) _
set_option maxHeartbeats 400000 in
theorem grow_zero (w : World) : Calls Try.prog 71 #[.slice none 0 0, .int .i64 0] w (Grown w) := by
  go_enter Try.func71, Try.ntmps71
  go_wp2
  go_ret
  exact ⟨_, rfl, Below.refl _ _, own_nil _ _⟩
theorem grown_any (n : Nat) (hn : n ≤ 10000000) (w : World) : Calls Try.prog 71 #[.slice none 0 0, .int .i64 n] w (Grown w) := by
  rcases Nat.eq_zero_or_pos n with rfl | h
  · exact grow_zero w
  · exact grow_pos n h hn w

/-- the slices that Concat is given, and their lists -/
def Parts (g : Nat) (vs : List Value) (ls : List (List Bk)) (W : World) : Prop := g < W.heap.size ∧ vs.length = ls.length ∧ (∀ (j : Nat) (v : Value), vs[j]? = some v → W.cell? ⟨g, j, none⟩ = some v) ∧ ∀ (j : Nat) (v : Value) (l : List Bk), vs[j]? = some v → ls[j]? = some l → Lst v l W
theorem Parts.step {g : Nat} {vs : List Value} {ls : List (List Bk)} {W w2 : World} (h : Parts g vs ls W) (hb : Below W.heap.size W w2) : Parts g vs ls w2 :=
  ⟨Nat.lt_of_lt_of_le h.1 hb.size, h.2.1, fun j v hj => keep_cell hb (h.2.2.1 j v hj), fun j v l hv hl => (h.2.2.2 j v l hv hl).step hb⟩
def sumLen : List (List Bk) → Nat
  | [] => 0
  | l :: r => l.length + sumLen r
theorem sumLen_snoc : ∀ (ls : List (List Bk)) (l : List Bk), sumLen (ls ++ [l]) = sumLen ls + l.length
  | [], l => by simp [sumLen]
  | m :: r, l => by rw [List.cons_append]; unfold sumLen; rw [sumLen_snoc r l]; omega
theorem sumLen_le : ∀ (ls : List (List Bk)) (k : Nat), sumLen (ls.take k) ≤ sumLen ls
  | [], k => by simp [sumLen]
  | m :: r, 0 => by simp [sumLen]
  | m :: r, k + 1 => by rw [List.take_succ_cons]; unfold sumLen; have := sumLen_le r k; omega
theorem sumLen_flat : ∀ ls : List (List Bk), ls.flatten.length = sumLen ls
  | [] => rfl
  | m :: r => by rw [List.flatten_cons, List.length_append, sumLen_flat r]; rfl
theorem take_next {ls : List (List Bk)} {k : Nat} {l : List Bk} (h : ls[k]? = some l) : ls.take (k + 1) = ls.take k ++ [l] := by rw [List.take_add_one, h]; rfl
set_option maxRecDepth 100000 in
set_option maxHeartbeats 1000000 in
theorem concat_any {g N : Nat} {vs : List Value} {ls : List (List Bk)} (hN : vs.length = N) (hN1 : N ≤ 1000) (hs : sumLen ls ≤ 1000000) (w : World) (hp : Parts g vs ls w) :
    Calls Try.prog 57 #[.slice (some ⟨g, 0, none⟩) N N] w (Makes ls.flatten w) := by
  have hlen := hp.2.1
  go_enter Try.func57, Try.ntmps57
  go_wp2
  go_loop [3, 11] (fun q i => ∃ k : Nat, k ≤ N ∧ i = .int .i64 (k : Nat) ∧ q = .int .i64 (sumLen (ls.take k) : Nat)) (fun _ i => N - (intOf i).toNat)
  case atStart => exact ⟨0, Nat.zero_le _, rfl, rfl⟩
  case round =>
    obtain ⟨k, hk, rfl, rfl⟩ := hrel
    by_cases hlt : k < N
    · obtain ⟨v, hv⟩ : ∃ v, vs[k]? = some v := ⟨_, List.getElem?_eq_getElem (by omega)⟩
      obtain ⟨l, hl⟩ : ∃ l, ls[k]? = some l := ⟨_, List.getElem?_eq_getElem (by omega)⟩
      have C := hp.2.2.1 k v hv
      obtain ⟨p, c, rfl⟩ := lst_len (hp.2.2.2 k v l hv hl)
      have SN := hide (show sumLen (ls.take (k + 1)) = sumLen (ls.take k) + l.length by rw [take_next hl, sumLen_snoc])
      have SL := sumLen_le ls (k + 1)
      rw [SN.out] at SL
      clear hv hl
      generalize sumLen (ls.take k) = q at *
      go_wp2_with fail
      go_round
      case rel => exact ⟨k + 1, hlt, by go_num, by rw [SN.out]; go_num⟩
      case measure => simp [intOf]; omega
    · have e : ls.take k = ls := List.take_of_length_le (by omega)
      rw [e]
      have GA := hide (fun W => grown_any (sumLen ls) (by omega) W)
      generalize hq : sumLen ls = q at *
      have HQ := hide hq
      clear hq
      go_wp2_with fail
      refine (GA.out _).mono ?_
      rintro e w1 ⟨v, rfl, hb1, hown⟩
      have P1 := hp.step hb1
      go_wp2
      clear P1
      go_loopw [6, 27] (fun s6 i wr => ∃ (k : Nat) (v' : Value), k ≤ N ∧ i = .int .i64 (k : Nat) ∧ v' = s6 ∧ Below w.heap.size w wr ∧ Own wr w.heap.size v' ((ls.take k).flatten)) (fun _ i _ => N - (intOf i).toNat)
      case atStart => exact ⟨0, v, Nat.zero_le _, rfl, rfl, hb1, hown⟩
      clear hown hb1
      case round =>
        obtain ⟨k, v', hk, rfl, rfl, HB, hown⟩ := hrel
        by_cases hlt : k < N
        · obtain ⟨y, hy⟩ : ∃ v, vs[k]? = some v := ⟨_, List.getElem?_eq_getElem (by omega)⟩
          obtain ⟨l, hl⟩ : ∃ l, ls[k]? = some l := ⟨_, List.getElem?_eq_getElem (by omega)⟩
          have C := (hp.step HB).2.2.1 k y hy
          have L := (hp.step HB).2.2.2 k y l hy hl
          have TN := hide (show (ls.take (k + 1)).flatten = (ls.take k).flatten ++ l by rw [take_next hl, List.flatten_append]; simp)
          have SL : (ls.take k).flatten.length + l.length ≤ 1000000 := by
            have h1 := sumLen_le ls (k + 1)
            have h2 := sumLen_flat (ls.take (k + 1))
            rw [TN.out, List.length_append] at h2
            rw [HQ.out] at h1
            omega
          clear hy hl
          generalize (ls.take k).flatten = pre at TN SL hown
          go_wp2_with (at_builtin; refine wpList_append_lst rfl (.tmp 31) (.tmp 32) rfl w.heap.size v' pre rfl hown y l rfl L SL HB.size ?_)
          intro v2 w2 hown2 hb2 _
          have HB2 := HB.trans hb2
          rw [← TN.out] at hown2
          clear hb2 hown HB TN L C
          go_wp2
          go_roundw
          case rel => exact ⟨k + 1, v2, hlt, by go_num, rfl, HB2, hown2⟩
          case measure => simp [intOf]; omega
        · have e : ls.take k = ls := List.take_of_length_le (by omega)
          rw [e] at hown
          clear e
          go_wp2
          go_ret
          exact ⟨_, rfl, HB, hown⟩

/-- three slices in a new row, as Concat is handed them -/
theorem parts_three {W : World} {v0 v1 v2 : Value} {l0 l1 l2 : List Bk} {t : TypeId} (h0 : Lst v0 l0 W) (h1 : Lst v1 l1 W) (h2 : Lst v2 l2 W) :
    Parts W.heap.size [v0, v1, v2] [l0, l1, l2] (W.alloc (.cells #[v0, v1, v2] t)) := by
  have hb : Below W.heap.size W (W.alloc (.cells #[v0, v1, v2] t)) := below_alloc _ _
  refine ⟨by simp, rfl, fun j v hj => ?_, fun j v l hv hl => ?_⟩
  · match j, hj with
    | 0, hj => simp at hj; subst hj; simp [go_sem]
    | 1, hj => simp at hj; subst hj; simp [go_sem]
    | 2, hj => simp at hj; subst hj; simp [go_sem]
    | j + 3, hj => simp at hj
  · match j, hv, hl with
    | 0, hv, hl => simp at hv hl; subst hv hl; exact h0.step hb
    | 1, hv, hl => simp at hv hl; subst hv hl; exact h1.step hb
    | 2, hv, hl => simp at hv hl; subst hv hl; exact h2.step hb
    | j + 3, hv, hl => simp at hv
theorem concat3 {g : Nat} {v0 v1 v2 : Value} {l0 l1 l2 : List Bk} (hs : l0.length + l1.length + l2.length ≤ 1000000) (w : World) (hp : Parts g [v0, v1, v2] [l0, l1, l2] w) :
    Calls Try.prog 57 #[.slice (some ⟨g, 0, none⟩) 3 3] w (Makes (l0 ++ l1 ++ l2) w) := by
  have h := concat_any (N := 3) rfl (by omega) (by simp only [sumLen]; omega) w hp
  simpa using h

set_option maxHeartbeats 1000000 in
theorem clone_any {v : Value} {l : List Bk} (hl : l.length ≤ 1000000) (w : World) (hv : Lst v l w) :
    Calls Try.prog 45 #[v] w (Makes l w) := by
  have O0 := own_empty w
  have qT : ∀ (w : World) (a : Option Addr) (n c n' c' : Nat), (binOp .eql 27 (.slice a n c) (.slice none n' c')).run Try.prog w = .ok (.bool a.isNone) w := fun w a n c n' c' => Lib.run_eql_slice_nil w _ _ a n c n' c' Try.underlying27
  have B0 := below_alloc w (.cells #[] 26)
  obtain ⟨p, c, rfl⟩ := lst_len hv
  obtain ⟨_, _, _, hpc⟩ := lst_cap hv
  have V0 := hv.step B0
  cases p with
  | none =>
    have hl0 : l = [] := by
      rcases hv with ⟨_, _, _, e, _⟩ | ⟨_, _, _, e, _⟩
      · exact e
      · cases e
    subst hl0
    clear hv V0 O0 B0
    go_enter Try.func45, Try.ntmps45
    go_wp2
    go_ret
    exact ⟨_, rfl, Below.refl _ _, own_nil _ _⟩
  | some ad =>
    clear hv hpc
    go_enter Try.func45, Try.ntmps45
    go_wp2_with (at_builtin; refine wpList_append_lst rfl (.tmp 5) (.tmp 6) rfl w.heap.size _ [] rfl O0 _ l rfl V0 (by simp; omega) B0.size ?_)
    intro v2 w2 hown2 hb2 _
    have HB2 := B0.trans hb2
    clear hb2 V0 O0 B0
    go_wp2
    go_ret
    exact ⟨_, rfl, HB2, hown2⟩
/-- what x[i:] is -/
def dropV (b o n c i : Nat) : Value := .slice (if c = i then some ⟨b, o, none⟩ else some ⟨b, o + i * 3, none⟩) (n - i) (c - i)
theorem lst_dropV {b o n c i : Nat} {L : List Bk} {W : World} (h : Lst (.slice (some ⟨b, o, none⟩) n c) L W) (hi : i ≤ L.length) : Lst (dropV b o n c i) (L.drop i) W := by
  obtain ⟨h1, h2, h3, _⟩ := lst_cap h
  unfold dropV
  by_cases e : c = i
  · have e2 : L.drop i = [] := List.drop_eq_nil_of_le (by omega)
    rw [if_pos e, e2, show n - i = 0 by omega, show c - i = 0 by omega]
    exact lst_empty (fun h => by cases h) (by omega)
  · rw [if_neg e, h1]
    exact lst_drop h
end Go.Proofs.Ytpieddddckbfdaa
