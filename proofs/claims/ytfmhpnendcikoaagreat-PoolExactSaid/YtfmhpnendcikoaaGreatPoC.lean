/-
  slices.Compact at addresses: of neighbours that are alike one is left, in the row's own memory. Conditions: the words are words of 64 bits; at most 2000 addresses.
-/
import Derived.Test.YtfmhpnendcikoaaGreatPoF
import Derived.Lib.SliceRun
import Derived.Laws.IdiomCopy
namespace Go.Proofs.YtfmhpnendcikoaaGreat
open Go.RowKit Go.Joins

/-! ### lists -/
def dedS (s : List Nat) (x : Nat) : List Nat := if s.getLast? = some x then s else s ++ [x]
def dedA (l : List Nat) : List Nat := l.foldl dedS []
theorem last_dedS (s : List Nat) (x : Nat) : (dedS s x).getLast? = some x := by
  unfold dedS
  split
  · assumption
  · simp
theorem last_ded : ∀ (l s : List Nat) (x : Nat), ((l ++ [x]).foldl dedS s).getLast? = some x := by
  intro l s x
  rw [List.foldl_append]
  exact last_dedS _ x
theorem ded_take {R : List Nat} {k x : Nat} (h : R[k]? = some x) : dedA (R.take (k + 1)) = dedS (dedA (R.take k)) x := by
  unfold dedA
  rw [List.take_add_one, h, List.foldl_append]
  rfl
theorem ded_step {R : List Nat} {k x y : Nat} (hk : 1 ≤ k) (hy : R[k - 1]? = some y) (hx : R[k]? = some x) : dedA (R.take (k + 1)) = if x = y then dedA (R.take k) else dedA (R.take k) ++ [x] := by
  have e : R.take k = R.take (k - 1) ++ [y] := by
    have := List.take_add_one (l := R) (i := k - 1)
    rw [hy, show k - 1 + 1 = k by omega] at this
    exact this
  have hl : (dedA (R.take k)).getLast? = some y := by
    rw [e]
    exact last_ded _ _ _
  rw [ded_take hx]
  unfold dedS
  rw [hl]
  by_cases h : x = y
  · rw [if_pos h, if_pos (by rw [h])]
  · rw [if_neg h, if_neg (fun e => h (Option.some.inj e).symm)]
theorem ded_len (l : List Nat) : (dedA l).length ≤ l.length := by
  have : ∀ (l s : List Nat), (l.foldl dedS s).length ≤ s.length + l.length := by
    intro l
    induction l with
    | nil => intro s; simp
    | cons x r ih =>
      intro s
      have h1 := ih (dedS s x)
      have h2 : (dedS s x).length ≤ s.length + 1 := by
        unfold dedS
        split
        · omega
        · simp
      rw [List.foldl_cons, List.length_cons]
      omega
  simpa [dedA] using this l []
theorem rsg_snoc : ∀ {s : List Nat} {x : Nat}, Rsg s → (∀ y ∈ s, y < x) → Rsg (s ++ [x])
  | [], x, _, _ => ⟨fun y h => (by cases h), trivial⟩
  | z :: r, x, hs, hy => by
    refine ⟨fun y h => ?_, rsg_snoc hs.2 (fun y h => hy y (List.mem_cons_of_mem _ h))⟩
    rcases List.mem_append.1 h with h | h
    · exact hs.1 y h
    · rw [List.mem_singleton.1 h]; exact hy z (List.mem_cons_self ..)
theorem rsg_last : ∀ {s : List Nat} {z : Nat}, Rsg s → s.getLast? = some z → ∀ y ∈ s, y ≤ z
  | [], _, _, h => by cases h
  | [x], z, _, h => by intro y hy; rw [List.mem_singleton.1 hy]; simp at h; omega
  | x :: w :: r, z, hs, h => by
    intro y hy
    have h2 : (w :: r).getLast? = some z := by simpa using h
    have ih := rsg_last hs.2 h2
    rcases List.mem_cons.1 hy with rfl | hy
    · have a := hs.1 w (List.mem_cons_self ..)
      have b := ih w (List.mem_cons_self ..)
      omega
    · exact ih y hy
theorem dedA_aux : ∀ (l s : List Nat), Rsg s → l.Pairwise (fun x y => x ≤ y) → (∀ y ∈ s, ∀ x ∈ l, y ≤ x) → Rsg (l.foldl dedS s) ∧ ∀ a, a ∈ l.foldl dedS s ↔ a ∈ s ∨ a ∈ l
  | [], s, h, _, _ => ⟨h, fun a => by simp⟩
  | x :: r, s, h, hp, hb => by
    obtain ⟨p1, p2⟩ := List.pairwise_cons.1 hp
    have hm : ∀ a, a ∈ dedS s x ↔ a ∈ s ∨ a = x := by
      intro a
      unfold dedS
      split
      · rename_i e
        constructor
        · exact Or.inl
        · rintro (h | rfl)
          · exact h
          · exact List.mem_of_getLast? e
      · simp
    have hr : Rsg (dedS s x) := by
      unfold dedS
      split
      · exact h
      · rename_i e
        refine rsg_snoc h (fun y hy => ?_)
        have h1 := hb y hy x (List.mem_cons_self ..)
        rcases Nat.lt_or_eq_of_le h1 with h2 | h2
        · exact h2
        · subst h2
          exfalso
          have hne : s ≠ [] := by intro e0; rw [e0] at hy; cases hy
          have hz := List.getLast?_eq_some_getLast hne
          have a := rsg_last h hz y hy
          have b := hb (s.getLast hne) (List.getLast_mem hne) y (List.mem_cons_self ..)
          exact e (by rw [hz]; congr 1; omega)
    obtain ⟨q1, q2⟩ := dedA_aux r (dedS s x) hr p2 (fun y hy z hz => by
      rcases (hm y).1 hy with h1 | rfl
      · exact hb y h1 z (List.mem_cons_of_mem _ hz)
      · exact p1 z hz)
    refine ⟨q1, fun a => ?_⟩
    rw [List.foldl_cons, q2 a, hm a, List.mem_cons]
    constructor
    · rintro ((h | h) | h)
      · exact Or.inl h
      · exact Or.inr (Or.inl h)
      · exact Or.inr (Or.inr h)
    · rintro (h | h | h)
      · exact Or.inl (Or.inl h)
      · exact Or.inl (Or.inr h)
      · exact Or.inr h
theorem dedA_up {l R : List Nat} (hp : R.Perm l) (ho : R.Pairwise (fun x y => x ≤ y)) : dedA R = upL l := by
  obtain ⟨a, b⟩ := dedA_aux R [] trivial ho (fun y h => by cases h)
  refine rsg_ext a (up_spec l).1 (fun x => ?_)
  have := b x
  unfold dedA
  rw [this, (up_spec l).2.2 x, hp.mem_iff]
  simp

/-! ### memory -/
theorem cellsA_take (l : List Nat) (k : Nat) : (cellsA l).take (k * 2) = cellsA (l.take k) := by
  induction l generalizing k with
  | nil => simp [cellsA]
  | cons x r ih =>
    cases k with
    | zero => simp [cellsA]
    | succ k => rw [cellsA_cons, show (k + 1) * 2 = k * 2 + 1 + 1 by omega, List.take_succ_cons, List.take_succ_cons, ih, List.take_succ_cons, cellsA_cons]
theorem own_short {W : World} {base g n cap k : Nat} {xs : List Value} {l : List Nat} (h : W.ownsRow base 31 2 (.slice (some ⟨g, 0, none⟩) n cap) n xs) (hk : k ≤ n) (hx : xs.take (k * 2) = cellsA l) (hl : l.length = k) : OwnA W base (.slice (some ⟨g, 0, none⟩) k cap) l := by
  rcases h.2 with ⟨h', _⟩ | ⟨g', cap', cur, h', hb, hg, hnc, hcm, hcs, htake⟩
  · simp at h'
  · simp only [Value.slice.injEq, Option.some.injEq, Addr.mk.injEq, and_true, true_and] at h'
    obtain ⟨rfl, rfl⟩ := h'
    refine ⟨by rw [cellsA_len], Or.inr ⟨g, cap, cur, by rw [hl], hb, hg, by omega, hcm, hcs, ?_⟩⟩
    rw [hl, ← hx, ← htake, List.take_take, show min (k * 2) (n * 2) = k * 2 by omega]
theorem own_cleared {base g n cap : Nat} : ∀ (vs : List Value) (j : Nat) (W : World) (xs : List Value), W.ownsRow base 31 2 (.slice (some ⟨g, 0, none⟩) n cap) n xs →
    ∃ xs', (W.setCells g j vs).ownsRow base 31 2 (.slice (some ⟨g, 0, none⟩) n cap) n xs' ∧ xs'.take j = xs.take j ∧ Below base W (W.setCells g j vs)
  | [], j, W, xs, h => ⟨xs, h, rfl, Below.refl _ _⟩
  | v :: r, j, W, xs, h => by
    obtain ⟨xs', h1, h2, h3⟩ := own_cleared r (j + 1) (W.setCell ⟨g, j, none⟩ v) (xs.set j v) (h.stored j v).1
    refine ⟨xs', h1, ?_, ((Below.refl base W).setCell (h.lt g rfl).1 v).trans h3⟩
    have := congrArg (List.take j) h2
    rw [List.take_take, List.take_take, show min j (j + 1) = j by omega] at this
    rw [this, List.take_set_of_le (Nat.le_refl _)]
theorem clear_two (w : World) (ty : TypeId) (b o n c : Nat) (hn : 0 < n) (hc : ∀ j, j < n * 2 → (w.cell? ⟨b, o + j, none⟩).isSome = true) (hf : ∀ j, j < n * 2 → w.frozen? ⟨b, o + j, none⟩ = false) :
    (Builtin.clear_ #[23] ty #[.slice (some ⟨b, o, none⟩) n c]).run Tryz.prog w = .ok (.tuple #[]) (w.setCells b o (List.replicate (n * 2) (.int .u64 0))) := by
  have hv : ∀ w, (zeroValue 31).run Tryz.prog w = .ok (.agg #[.int .u64 0, .int .u64 0]) w := fun w => by kernel_rfl
  have hzc : (Builtin.zeroCells (Value.agg #[.int .u64 0, .int .u64 0]).cells n).toList = List.replicate (n * 2) (.int .u64 0) := by
    show (Builtin.zeroCells (#[.int .u64 0, .int .u64 0] : Array Value) n).toList = _
    rw [List.eq_replicate_iff]
    refine ⟨by simp [Builtin.zeroCells], fun x hx => ?_⟩
    unfold Builtin.zeroCells at hx
    simp only [Array.toList_map, List.mem_map] at hx
    obtain ⟨i, _, rfl⟩ := hx
    show (#[Value.int .u64 0, .int .u64 0] : Array Value)[i % 2]! = _
    have : i % 2 = 0 ∨ i % 2 = 1 := by omega
    rcases this with e | e <;> rw [e] <;> rfl
  have hst := run_storeCells_cells (P := Tryz.prog) b o (List.replicate (n * 2) (.int .u64 0)) 0 w (by simpa using hc) (by simpa using hf) (by intro v hv'; rw [List.eq_of_mem_replicate hv']; rfl)
  simp only [Nat.add_zero] at hst
  obtain ⟨m, rfl⟩ : ∃ m, n = m + 1 := ⟨n - 1, by omega⟩
  have ht := Tryz.underlying23
  simp [Builtin.clear_, run_underlying ht, hv, hzc, hst]

/-- the row while Compact goes on: the call's own, in place -/
def HCp (base : Nat) (w : World) (g cap n : Nat) (L : List Nat) (W : World) : Prop := Below base w W ∧ W.ownsRow base 31 2 (.slice (some ⟨g, 0, none⟩) n cap) n (cellsA L) ∧ g < w.heap.size ∧ L.length = n
theorem HCp.drew {base : Nat} {w : World} {g cap n : Nat} {L : List Nat} {W : World} (h : HCp base w g cap n L W) : HCp base w g cap n L { W with drawn := W.drawn + 1 } :=
  ⟨h.1.drew, own_keep h.2.1 (Below.refl _ _).drew, h.2.2⟩
theorem hcp_at {base : Nat} {w : World} {g cap n : Nat} {L : List Nat} {W : World} (h : HCp base w g cap n L W) {j x : Nat} (hx : L[j]? = some x) :
    W.cell? ⟨g, j * 2, none⟩ = some (.int .u64 (hi x : Nat)) ∧ W.cell? ⟨g, j * 2 + 1, none⟩ = some (.int .u64 (lo x : Nat)) ∧ W.frozen? ⟨g, j * 2, none⟩ = false ∧ W.frozen? ⟨g, j * 2 + 1, none⟩ = false := by
  obtain ⟨_, h, _, hn⟩ := h
  have hj : j < L.length := (List.getElem?_eq_some_iff.1 hx).1
  exact ⟨(h.cellAt (j * 2) (by omega)).trans (cellsA_at hx).1, (h.cellAt (j * 2 + 1) (by omega)).trans (cellsA_at hx).2, h.frozenAt _, h.frozenAt _⟩
theorem hcp_put {base : Nat} {w : World} {g cap n : Nat} {L : List Nat} {W : World} (h : HCp base w g cap n L W) (j y : Nat) :
    HCp base w g cap n (L.set j y) ((W.setCell ⟨g, j * 2, none⟩ (.int .u64 (hi y : Nat))).setCell ⟨g, j * 2 + 1, none⟩ (.int .u64 (lo y : Nat))) := by
  have h1 := (h.2.1.stored (j * 2) (.int .u64 (hi y : Nat))).1
  have h2 := (h1.stored (j * 2 + 1) (.int .u64 (lo y : Nat))).1
  rw [cellsA_set] at h2
  have hg := (h.2.1.lt g rfl).1
  exact ⟨(h.1.setCell hg _).setCell hg _, h2, h.2.2.1, by rw [List.length_set]; exact h.2.2.2⟩
theorem set_take {L : List Nat} {k x : Nat} (h : k < L.length) : (L.set k x).take (k + 1) = L.take k ++ [x] := by
  rw [List.take_add_one, List.getElem?_set_self h, List.take_set_of_le (Nat.le_refl _)]
  rfl
/-- what stands of the row behind k + k2 of it -/
def CInv (R L : List Nat) (m kk : Nat) : Prop := L.take kk = dedA (R.take m) ∧ kk + 1 ≤ m ∧ 1 ≤ kk ∧ L.length = R.length ∧ ∀ j, m - 1 ≤ j → L[j]? = R[j]?
theorem cinv_skip {R L : List Nat} {m kk x : Nat} (h : CInv R L m kk) (hx : R[m]? = some x) (hy : R[m - 1]? = some x) : CInv R L (m + 1) kk := by
  obtain ⟨h1, h2, h3, h4, h5⟩ := h
  refine ⟨?_, by omega, h3, h4, fun j hj => h5 j (by omega)⟩
  rw [ded_step (by omega) hy hx, if_pos rfl]
  exact h1
theorem cinv_put {R L : List Nat} {m kk x y : Nat} (h : CInv R L m kk) (hx : R[m]? = some x) (hy : R[m - 1]? = some y) (hne : ¬ x = y) : CInv R (L.set kk x) (m + 1) (kk + 1) := by
  obtain ⟨h1, h2, h3, h4, h5⟩ := h
  have hm : m < R.length := (List.getElem?_eq_some_iff.1 hx).1
  refine ⟨?_, by omega, by omega, by rw [List.length_set]; exact h4, fun j hj => ?_⟩
  · rw [ded_step (by omega) hy hx, if_neg hne, set_take (by omega), h1]
  · rw [List.getElem?_set_ne (by omega)]
    exact h5 j (by omega)
def CompGives (base : Nat) (l : List Nat) (w : World) (e : Ending) (w' : World) : Prop := ∃ v, e = .returned v ∧ Below base w w' ∧ OwnA w' base v l
set_option maxRecDepth 100000 in
set_option maxHeartbeats 4000000 in
theorem compact_any {v : Value} {R : List Nat} {base : Nat} (hl : R.length ≤ 2000) (w : World) (hO : OwnA w base v R) :
    Calls Tryz.prog 33 #[v] w (CompGives base (dedA R) w) := by
  have HO := hide hO
  by_cases h2 : R.length < 2
  · have E := hide (show dedA R = R by
      match R, h2 with
      | [], _ => rfl
      | [x], _ => rfl
      | _ :: _ :: _, h => simp at h; omega)
    obtain ⟨p, c, rfl, _, _⟩ := lenA hO
    clear hO
    go_enter Tryz.func33, Tryz.ntmps33
    go_wp2
    go_ret
    exact ⟨_, rfl, Below.refl _ _, by rw [E.out]; exact HO.out⟩
  · obtain ⟨g, cap, rfl, hbg, hgl⟩ := hO.form (by omega)
    have hcap := (lstA_cap (ownA_lst hO)).2.1
    have H0 : HCp base w g cap R.length R w := ⟨Below.refl _ _, HO.out, hgl, rfl⟩
    clear hO
    go_enter Tryz.func33, Tryz.ntmps33
    go_wp2
    go_loopw [3] (fun i wr => ∃ k : Nat, 1 ≤ k ∧ k ≤ R.length ∧ i = .int .i64 (k : Nat) ∧ HCp base w g cap R.length R wr ∧ Hid (dedA (R.take k) = R.take k)) (fun i _ => R.length - (intOf i).toNat)
    case atStart => exact ⟨1, Nat.le_refl _, by omega, rfl, H0, hide (by
      match R, h2 with
      | [], h => simp at h
      | x :: r, _ => rfl)⟩
    case round =>
      obtain ⟨k, k1, hk, rfl, HH, HD⟩ := hrel
      clear H0
      have KW : IntKind.i64.wrap ((k : Int) - 1) = (k : Int) - 1 := IntWalk.i64_in _ ⟨by omega, by omega⟩
      have KA : 0 ≤ (k : Int) - 1 := by omega
      have KB : 1 ≤ (k : Int) := by omega
      have KN : ((k : Int) - 1).toNat = k - 1 := by omega
      by_cases hlt : k < R.length
      · obtain ⟨x, hx⟩ := getA_some hlt
        obtain ⟨y, hy⟩ := getA_some (show k - 1 < R.length by omega)
        have RX := hide (fun W (H : HCp base w g cap R.length R W) => hcp_at H hx)
        have RY := hide (fun W (H : HCp base w g cap R.length R W) => hcp_at H hy)
        have KL : (k : Int) - 1 < (R.length : Int) := by omega
        have DS := hide (ded_step k1 hy hx)
        have TK := hide (List.take_add_one (l := R) (i := k))
        have HX := hide hx
        by_cases hxy : x = y
        · subst hxy
          have CI := hide (show CInv R R (k + 1) k from ⟨by rw [DS.out, if_pos rfl]; exact HD.out.symm, Nat.le_refl _, k1, rfl, fun _ _ => rfl⟩)
          clear hx hy DS HD
          go_wp2_with fail
          refine wp_region_quiet (C := HCp base w g cap R.length R) (by kernel_rfl) (by kernel_rfl) HH.drew (wpQuiet_step (fun K0 hK0 => ?_))
          go_simp
          first | (with_reducible refine hK0 _ (wpQuiet_step (fun K1 hK1 => ?_))) | (with_reducible refine ⟨_, fun _ _ => rfl, hK0 _ (wpQuiet_step (fun K1 hK1 => ?_))⟩) | (rw [if_neg (by intro e; cases e)]; with_reducible refine hK0 _ (wpQuiet_step (fun K1 hK1 => ?_)))
          clear hK0 K0
          go_simp
          first | (with_reducible refine hK1 _ (wpQuiet_step (fun K0 hK0 => ?_))) | (with_reducible refine ⟨_, fun _ _ => rfl, hK1 _ (wpQuiet_step (fun K0 hK0 => ?_))⟩) | (rw [if_neg (by intro e; cases e)]; with_reducible refine hK1 _ (wpQuiet_step (fun K0 hK0 => ?_)))
          clear hK1 K1
          go_simp
          first | (with_reducible refine hK0 _ (wpQuiet_step (fun K1 hK1 => ?_))) | (with_reducible refine ⟨_, fun _ _ => rfl, hK0 _ (wpQuiet_step (fun K1 hK1 => ?_))⟩) | (rw [if_neg (by intro e; cases e)]; with_reducible refine hK0 _ (wpQuiet_step (fun K1 hK1 => ?_)))
          clear hK0 K0
          go_simp
          refine ⟨A x, fun W hW => ?_, hK1 _ (wpQuiet_step (fun K0 hK0 => ?_))⟩
          · ((obtain ⟨u0, u1, _, _⟩ := RX.out W hW; simp [go_sem, u0, u1]))
          clear hK1 K1
          go_simp
          first | (with_reducible refine hK0 _ (wpQuiet_step (fun K1 hK1 => ?_))) | (with_reducible refine ⟨_, fun _ _ => rfl, hK0 _ (wpQuiet_step (fun K1 hK1 => ?_))⟩) | (rw [if_neg (by intro e; cases e)]; with_reducible refine hK0 _ (wpQuiet_step (fun K1 hK1 => ?_)))
          clear hK0 K0
          go_simp
          first | (with_reducible refine hK1 _ (wpQuiet_step (fun K0 hK0 => ?_))) | (with_reducible refine ⟨_, fun _ _ => rfl, hK1 _ (wpQuiet_step (fun K0 hK0 => ?_))⟩) | (rw [if_neg (by intro e; cases e)]; with_reducible refine hK1 _ (wpQuiet_step (fun K0 hK0 => ?_)))
          clear hK1 K1
          go_simp
          first | (with_reducible refine hK0 _ (wpQuiet_step (fun K1 hK1 => ?_))) | (with_reducible refine ⟨_, fun _ _ => rfl, hK0 _ (wpQuiet_step (fun K1 hK1 => ?_))⟩) | (rw [if_neg (by intro e; cases e)]; with_reducible refine hK0 _ (wpQuiet_step (fun K1 hK1 => ?_)))
          clear hK0 K0
          go_simp
          first | (with_reducible refine hK1 _ (wpQuiet_step (fun K0 hK0 => ?_))) | (with_reducible refine ⟨_, fun _ _ => rfl, hK1 _ (wpQuiet_step (fun K0 hK0 => ?_))⟩) | (rw [if_neg (by intro e; cases e)]; with_reducible refine hK1 _ (wpQuiet_step (fun K0 hK0 => ?_)))
          clear hK1 K1
          go_simp
          refine ⟨A x, fun W hW => ?_, hK0 _ (wpQuiet_step (fun K1 hK1 => ?_))⟩
          · ((obtain ⟨u0, u1, _, _⟩ := RY.out W hW; simp [go_sem, u0, u1]))
          clear hK0 K0
          go_simp
          first | (with_reducible refine hK1 _ (wpQuiet_nil ?_)) | (with_reducible refine ⟨_, fun _ _ => rfl, hK1 _ (wpQuiet_nil ?_)⟩) | (rw [if_neg (by intro e; cases e)]; with_reducible refine hK1 _ (wpQuiet_nil ?_))
          clear hK1 K1
          intro w2 H2
          clear HH RX RY KW KA KB KN KL TK HX
          have CK : ¬ cap = k := by omega
          go_wp2
          go_loopw [3, 5] (fun s3 s5 wr => ∃ (kk k2 : Nat) (L : List Nat), s3 = .int .i64 (kk : Nat) ∧ s5 = .int .i64 (k2 : Nat) ∧ 1 ≤ k2 ∧ k + k2 ≤ R.length ∧ kk + 1 ≤ k + k2 ∧ HCp base w g cap R.length L wr ∧ Hid (CInv R L (k + k2) kk)) (fun _ i _ => R.length - (intOf i).toNat)
          case atStart => exact ⟨k, 1, R, rfl, rfl, Nat.le_refl _, by omega, Nat.le_refl _, H2, CI⟩
          case round =>
            obtain ⟨kk, k2, L, rfl, rfl, j1, hle, hkk, HH, CI⟩ := hrel
            have KW : IntKind.i64.wrap ((k2 : Int) - 1) = (k2 : Int) - 1 := IntWalk.i64_in _ ⟨by omega, by omega⟩
            have KA : 0 ≤ (k2 : Int) - 1 := by omega
            have KB : 1 ≤ (k2 : Int) := by omega
            have KN : ((k2 : Int) - 1).toNat = k2 - 1 := by omega
            have HL5 := hide CI.out.2.2.2.2
            by_cases hlt2 : k + k2 < R.length
            · obtain ⟨u, hu⟩ := getA_some hlt2
              obtain ⟨z, hz⟩ := getA_some (show k + k2 - 1 < R.length by omega)
              have RX := hide (fun W (H : HCp base w g cap R.length L W) => (show W.cell? ⟨g, k * 2 + k2 * 2, none⟩ = some (.int .u64 (hi u : Nat)) ∧ W.cell? ⟨g, k * 2 + k2 * 2 + 1, none⟩ = some (.int .u64 (lo u : Nat)) by
                have := hcp_at H ((HL5.out (k + k2) (by omega)).trans hu)
                rw [show (k + k2) * 2 = k * 2 + k2 * 2 by omega] at this
                exact ⟨this.1, this.2.1⟩))
              have RY := hide (fun W (H : HCp base w g cap R.length L W) => (show W.cell? ⟨g, k * 2 + (k2 - 1) * 2, none⟩ = some (.int .u64 (hi z : Nat)) ∧ W.cell? ⟨g, k * 2 + (k2 - 1) * 2 + 1, none⟩ = some (.int .u64 (lo z : Nat)) by
                have := hcp_at H ((HL5.out (k + k2 - 1) (by omega)).trans hz)
                rw [show (k + k2 - 1) * 2 = k * 2 + (k2 - 1) * 2 by omega] at this
                exact ⟨this.1, this.2.1⟩))
              have KL : k2 < R.length - k := by omega
              have KM : k2 - 1 < R.length - k := by omega
              have KM1 : (k2 : Int) - 1 < ((R.length - k : Nat) : Int) := by omega
              by_cases huz : u = z
              · subst huz
                have C2 := hide (cinv_skip CI.out hu hz)
                clear hu hz HL5
                go_wp2_with fail
                refine wp_region_quiet (C := HCp base w g cap R.length L) (by kernel_rfl) (by kernel_rfl) HH.drew (wpQuiet_step (fun K0 hK0 => ?_))
                go_simp
                first | (with_reducible refine hK0 _ (wpQuiet_step (fun K1 hK1 => ?_))) | (with_reducible refine ⟨_, fun _ _ => rfl, hK0 _ (wpQuiet_step (fun K1 hK1 => ?_))⟩) | (rw [if_neg (by intro e; cases e)]; with_reducible refine hK0 _ (wpQuiet_step (fun K1 hK1 => ?_)))
                clear hK0 K0
                go_simp
                first | (with_reducible refine hK1 _ (wpQuiet_step (fun K0 hK0 => ?_))) | (with_reducible refine ⟨_, fun _ _ => rfl, hK1 _ (wpQuiet_step (fun K0 hK0 => ?_))⟩) | (rw [if_neg (by intro e; cases e)]; with_reducible refine hK1 _ (wpQuiet_step (fun K0 hK0 => ?_)))
                clear hK1 K1
                go_simp
                first | (with_reducible refine hK0 _ (wpQuiet_step (fun K1 hK1 => ?_))) | (with_reducible refine ⟨_, fun _ _ => rfl, hK0 _ (wpQuiet_step (fun K1 hK1 => ?_))⟩) | (rw [if_neg (by intro e; cases e)]; with_reducible refine hK0 _ (wpQuiet_step (fun K1 hK1 => ?_)))
                clear hK0 K0
                go_simp
                refine ⟨A u, fun W hW => ?_, hK1 _ (wpQuiet_step (fun K0 hK0 => ?_))⟩
                · ((obtain ⟨u0, u1⟩ := RX.out W hW; simp [go_sem, u0, u1]))
                clear hK1 K1
                go_simp
                first | (with_reducible refine hK0 _ (wpQuiet_step (fun K1 hK1 => ?_))) | (with_reducible refine ⟨_, fun _ _ => rfl, hK0 _ (wpQuiet_step (fun K1 hK1 => ?_))⟩) | (rw [if_neg (by intro e; cases e)]; with_reducible refine hK0 _ (wpQuiet_step (fun K1 hK1 => ?_)))
                clear hK0 K0
                go_simp
                first | (with_reducible refine hK1 _ (wpQuiet_step (fun K0 hK0 => ?_))) | (with_reducible refine ⟨_, fun _ _ => rfl, hK1 _ (wpQuiet_step (fun K0 hK0 => ?_))⟩) | (rw [if_neg (by intro e; cases e)]; with_reducible refine hK1 _ (wpQuiet_step (fun K0 hK0 => ?_)))
                clear hK1 K1
                go_simp
                first | (with_reducible refine hK0 _ (wpQuiet_step (fun K1 hK1 => ?_))) | (with_reducible refine ⟨_, fun _ _ => rfl, hK0 _ (wpQuiet_step (fun K1 hK1 => ?_))⟩) | (rw [if_neg (by intro e; cases e)]; with_reducible refine hK0 _ (wpQuiet_step (fun K1 hK1 => ?_)))
                clear hK0 K0
                go_simp
                first | (with_reducible refine hK1 _ (wpQuiet_step (fun K0 hK0 => ?_))) | (with_reducible refine ⟨_, fun _ _ => rfl, hK1 _ (wpQuiet_step (fun K0 hK0 => ?_))⟩) | (rw [if_neg (by intro e; cases e)]; with_reducible refine hK1 _ (wpQuiet_step (fun K0 hK0 => ?_)))
                clear hK1 K1
                go_simp
                refine ⟨A u, fun W hW => ?_, hK0 _ (wpQuiet_step (fun K1 hK1 => ?_))⟩
                · ((obtain ⟨u0, u1⟩ := RY.out W hW; simp [go_sem, u0, u1]))
                clear hK0 K0
                go_simp
                first | (with_reducible refine hK1 _ (wpQuiet_nil ?_)) | (with_reducible refine ⟨_, fun _ _ => rfl, hK1 _ (wpQuiet_nil ?_)⟩) | (rw [if_neg (by intro e; cases e)]; with_reducible refine hK1 _ (wpQuiet_nil ?_))
                clear hK1 K1
                intro w3 H3
                go_wp2
                go_roundw
                case rel => exact ⟨kk, k2 + 1, L, rfl, by go_num, by omega, by omega, by omega, H3, C2⟩
                case measure => simp [intOf]; omega
              · have C2 := hide (cinv_put CI.out hu hz huz)
                have DN := hide (addr_ne huz)
                obtain ⟨old, ho⟩ := getA_some (show kk < L.length by rw [CI.out.2.2.2.1]; omega)
                have RO := hide (fun W (H : HCp base w g cap R.length L W) => hcp_at H ho)
                have RP := hide (fun W (H : HCp base w g cap R.length L W) => hcp_put H kk u)
                clear hu hz HL5 huz ho
                go_wp2_with fail
                refine wp_region_quiet (C := HCp base w g cap R.length L) (by kernel_rfl) (by kernel_rfl) HH.drew (wpQuiet_step (fun K0 hK0 => ?_))
                go_simp
                first | (with_reducible refine hK0 _ (wpQuiet_step (fun K1 hK1 => ?_))) | (with_reducible refine ⟨_, fun _ _ => rfl, hK0 _ (wpQuiet_step (fun K1 hK1 => ?_))⟩) | (rw [if_neg (by intro e; cases e)]; with_reducible refine hK0 _ (wpQuiet_step (fun K1 hK1 => ?_)))
                clear hK0 K0
                go_simp
                first | (with_reducible refine hK1 _ (wpQuiet_step (fun K0 hK0 => ?_))) | (with_reducible refine ⟨_, fun _ _ => rfl, hK1 _ (wpQuiet_step (fun K0 hK0 => ?_))⟩) | (rw [if_neg (by intro e; cases e)]; with_reducible refine hK1 _ (wpQuiet_step (fun K0 hK0 => ?_)))
                clear hK1 K1
                go_simp
                first | (with_reducible refine hK0 _ (wpQuiet_step (fun K1 hK1 => ?_))) | (with_reducible refine ⟨_, fun _ _ => rfl, hK0 _ (wpQuiet_step (fun K1 hK1 => ?_))⟩) | (rw [if_neg (by intro e; cases e)]; with_reducible refine hK0 _ (wpQuiet_step (fun K1 hK1 => ?_)))
                clear hK0 K0
                go_simp
                refine ⟨A u, fun W hW => ?_, hK1 _ (wpQuiet_step (fun K0 hK0 => ?_))⟩
                · ((obtain ⟨u0, u1⟩ := RX.out W hW; simp [go_sem, u0, u1]))
                clear hK1 K1
                go_simp
                first | (with_reducible refine hK0 _ (wpQuiet_step (fun K1 hK1 => ?_))) | (with_reducible refine ⟨_, fun _ _ => rfl, hK0 _ (wpQuiet_step (fun K1 hK1 => ?_))⟩) | (rw [if_neg (by intro e; cases e)]; with_reducible refine hK0 _ (wpQuiet_step (fun K1 hK1 => ?_)))
                clear hK0 K0
                go_simp
                first | (with_reducible refine hK1 _ (wpQuiet_step (fun K0 hK0 => ?_))) | (with_reducible refine ⟨_, fun _ _ => rfl, hK1 _ (wpQuiet_step (fun K0 hK0 => ?_))⟩) | (rw [if_neg (by intro e; cases e)]; with_reducible refine hK1 _ (wpQuiet_step (fun K0 hK0 => ?_)))
                clear hK1 K1
                go_simp
                first | (with_reducible refine hK0 _ (wpQuiet_step (fun K1 hK1 => ?_))) | (with_reducible refine ⟨_, fun _ _ => rfl, hK0 _ (wpQuiet_step (fun K1 hK1 => ?_))⟩) | (rw [if_neg (by intro e; cases e)]; with_reducible refine hK0 _ (wpQuiet_step (fun K1 hK1 => ?_)))
                clear hK0 K0
                go_simp
                first | (with_reducible refine hK1 _ (wpQuiet_step (fun K0 hK0 => ?_))) | (with_reducible refine ⟨_, fun _ _ => rfl, hK1 _ (wpQuiet_step (fun K0 hK0 => ?_))⟩) | (rw [if_neg (by intro e; cases e)]; with_reducible refine hK1 _ (wpQuiet_step (fun K0 hK0 => ?_)))
                clear hK1 K1
                go_simp
                refine ⟨A z, fun W hW => ?_, hK0 _ (wpQuiet_step (fun K1 hK1 => ?_))⟩
                · ((obtain ⟨u0, u1⟩ := RY.out W hW; simp [go_sem, u0, u1]))
                clear hK0 K0
                go_simp
                refine ⟨.bool true, fun W hW => ?_, hK1 _ (wpQuiet_nil ?_)⟩
                · ((rcases DN.out with h1 | ⟨h1, h2⟩; (rw [if_neg (by omega)]; exact ⟨rfl, rfl⟩); (rw [if_pos (by omega), if_neg (by omega)]; exact ⟨rfl, rfl⟩)))
                clear hK1 K1
                intro w3 H3
                obtain ⟨x0, x1⟩ := RX.out w3 H3
                obtain ⟨o0, o1, o2, o3⟩ := RO.out w3 H3
                have H4 := RP.out w3 H3
                clear RX RY RO RP
                go_wp2
                go_roundw
                case rel => exact ⟨kk + 1, k2 + 1, L.set kk u, by go_num, by go_num, by omega, by omega, by omega, H4, C2⟩
                case measure => simp [intOf]; omega
            · have hend : k + k2 = R.length := by omega
              have FC := HH.2.1
              have hcl := fun ty => clear_two wr ty g (kk * 2) (R.length - kk) (cap - kk) (by omega)
                (fun j hj => by rw [FC.cellAt (kk * 2 + j) (by omega), List.getElem?_eq_getElem (by rw [cellsA_len, HH.2.2.2]; omega)]; rfl) (fun j _ => FC.frozenAt (kk * 2 + j))
              obtain ⟨xs, q1, q2, q3⟩ := own_cleared (List.replicate ((R.length - kk) * 2) (.int .u64 0)) (kk * 2) wr _ FC
              have TK2 := CI.out.1
              rw [hend, List.take_length] at TK2
              have F := hide (show OwnA (wr.setCells g (kk * 2) (List.replicate ((R.length - kk) * 2) (.int .u64 0))) base (.slice (some ⟨g, 0, none⟩) kk cap) (dedA R) from
                own_short q1 (by omega) (by rw [q2, cellsA_take, TK2]) (by rw [← TK2, List.length_take, HH.2.2.2]; omega))
              have B := hide (HH.1.trans q3)
              have CK2 : ¬ cap = kk := by omega
              have KX : ¬ k2 < R.length - k := by omega
              clear q1 q2 q3 TK2 FC hend HL5
              go_wp2
              go_ret
              exact ⟨_, rfl, B.out, F.out⟩
        · have D1 := hide (show dedA (R.take (k + 1)) = R.take (k + 1) by rw [DS.out, if_neg hxy, HD.out, TK.out, HX.out]; rfl)
          have DN := hide (addr_ne hxy)
          clear hx hy DS HD hxy
          go_wp2_with fail
          refine wp_region_quiet (C := HCp base w g cap R.length R) (by kernel_rfl) (by kernel_rfl) HH.drew (wpQuiet_step (fun K0 hK0 => ?_))
          go_simp
          first | (with_reducible refine hK0 _ (wpQuiet_step (fun K1 hK1 => ?_))) | (with_reducible refine ⟨_, fun _ _ => rfl, hK0 _ (wpQuiet_step (fun K1 hK1 => ?_))⟩) | (rw [if_neg (by intro e; cases e)]; with_reducible refine hK0 _ (wpQuiet_step (fun K1 hK1 => ?_)))
          clear hK0 K0
          go_simp
          first | (with_reducible refine hK1 _ (wpQuiet_step (fun K0 hK0 => ?_))) | (with_reducible refine ⟨_, fun _ _ => rfl, hK1 _ (wpQuiet_step (fun K0 hK0 => ?_))⟩) | (rw [if_neg (by intro e; cases e)]; with_reducible refine hK1 _ (wpQuiet_step (fun K0 hK0 => ?_)))
          clear hK1 K1
          go_simp
          first | (with_reducible refine hK0 _ (wpQuiet_step (fun K1 hK1 => ?_))) | (with_reducible refine ⟨_, fun _ _ => rfl, hK0 _ (wpQuiet_step (fun K1 hK1 => ?_))⟩) | (rw [if_neg (by intro e; cases e)]; with_reducible refine hK0 _ (wpQuiet_step (fun K1 hK1 => ?_)))
          clear hK0 K0
          go_simp
          refine ⟨A x, fun W hW => ?_, hK1 _ (wpQuiet_step (fun K0 hK0 => ?_))⟩
          · ((obtain ⟨u0, u1, _, _⟩ := RX.out W hW; simp [go_sem, u0, u1]))
          clear hK1 K1
          go_simp
          first | (with_reducible refine hK0 _ (wpQuiet_step (fun K1 hK1 => ?_))) | (with_reducible refine ⟨_, fun _ _ => rfl, hK0 _ (wpQuiet_step (fun K1 hK1 => ?_))⟩) | (rw [if_neg (by intro e; cases e)]; with_reducible refine hK0 _ (wpQuiet_step (fun K1 hK1 => ?_)))
          clear hK0 K0
          go_simp
          first | (with_reducible refine hK1 _ (wpQuiet_step (fun K0 hK0 => ?_))) | (with_reducible refine ⟨_, fun _ _ => rfl, hK1 _ (wpQuiet_step (fun K0 hK0 => ?_))⟩) | (rw [if_neg (by intro e; cases e)]; with_reducible refine hK1 _ (wpQuiet_step (fun K0 hK0 => ?_)))
          clear hK1 K1
          go_simp
          first | (with_reducible refine hK0 _ (wpQuiet_step (fun K1 hK1 => ?_))) | (with_reducible refine ⟨_, fun _ _ => rfl, hK0 _ (wpQuiet_step (fun K1 hK1 => ?_))⟩) | (rw [if_neg (by intro e; cases e)]; with_reducible refine hK0 _ (wpQuiet_step (fun K1 hK1 => ?_)))
          clear hK0 K0
          go_simp
          first | (with_reducible refine hK1 _ (wpQuiet_step (fun K0 hK0 => ?_))) | (with_reducible refine ⟨_, fun _ _ => rfl, hK1 _ (wpQuiet_step (fun K0 hK0 => ?_))⟩) | (rw [if_neg (by intro e; cases e)]; with_reducible refine hK1 _ (wpQuiet_step (fun K0 hK0 => ?_)))
          clear hK1 K1
          go_simp
          refine ⟨A y, fun W hW => ?_, hK0 _ (wpQuiet_step (fun K1 hK1 => ?_))⟩
          · ((obtain ⟨u0, u1, _, _⟩ := RY.out W hW; simp [go_sem, u0, u1]))
          clear hK0 K0
          go_simp
          refine ⟨.bool false, fun W hW => ?_, hK1 _ (wpQuiet_nil ?_)⟩
          · ((rcases DN.out with h1 | ⟨h1, h2⟩; (rw [if_neg (by omega)]; exact ⟨rfl, rfl⟩); (rw [if_pos (by omega), if_neg (by omega)]; exact ⟨rfl, rfl⟩)))
          clear hK1 K1
          intro w2 H2
          go_wp2
          go_roundw
          case rel => exact ⟨k + 1, by omega, by omega, by go_num, H2, D1⟩
          case measure => simp [intOf]; omega
      · have e : R.take k = R := List.take_of_length_le (by omega)
        have E := hide (show dedA R = R by have := HD.out; rwa [e] at this)
        clear e
        go_wp2
        go_ret
        exact ⟨_, rfl, HH.1, by rw [E.out]; exact HH.2.1⟩
end Go.Proofs.YtfmhpnendcikoaaGreat
