/-
  Contract of Nth. Conditions: the words are words of 64 bits; a slice has at most 1000000 ranges.
-/
import Derived.Test.YtfmhpnendcikoaaGreatSpanU
namespace Go.Proofs.YtfmhpnendcikoaaGreat
open Go.RowKit Go.Joins

/-- the address at a place, as the loop finds it -/
def nthF (l : List Rg) : Nat → Option Nat := l.foldr (fun x k n => if n ≤ subS x.2 x.1 then some (addS x.1 n) else k (subS n (sizeR x))) (fun _ => none)
theorem nthF_nil (n : Nat) : nthF [] n = none := by unfold nthF; rw [List.foldr_nil]
theorem nthF_cons (x : Rg) (r : List Rg) (n : Nat) : nthF (x :: r) n = if n ≤ subS x.2 x.1 then some (addS x.1 n) else nthF r (subS n (sizeR x)) := by unfold nthF; rw [List.foldr_cons]
def nthV (l : List Rg) (n : Nat) : Nat := if soundL l then (match nthF l n with | some a => a | none => 0) else 0
def nthO (l : List Rg) (n : Nat) : Bool := soundL l && (nthF l n).isSome
theorem nth_unsound {l : List Rg} (n : Nat) (h : soundL l = false) : nthV l n = 0 ∧ nthO l n = false := by unfold nthV nthO; rw [h]; exact ⟨rfl, rfl⟩
theorem nth_none {l : List Rg} {n : Nat} (h : nthF l n = none) : nthV l n = 0 ∧ nthO l n = false := by unfold nthV nthO; rw [h]; simp
theorem nth_some {l : List Rg} {n a : Nat} (hs : soundL l = true) (h : nthF l n = some a) : nthV l n = a ∧ nthO l n = true := by unfold nthV nthO; rw [h, hs]; simp
theorem drop_at' {l : List Rg} {k : Nat} {x : Rg} (h : l[k]? = some x) : l.drop k = x :: l.drop (k + 1) := by
  obtain ⟨h1, rfl⟩ := List.getElem?_eq_some_iff.1 h
  exact List.drop_eq_getElem_cons h1

/-- the blocks of Nth -/
def HN (w : World) (b o : Nat) (l : List Rg) (n : Nat) (W : World) : Prop := Below w.heap.size w W ∧ Two w.heap.size n W ∧ Two (w.heap.size + 1) 0 W ∧ RowR b o l W
theorem HN.step {w : World} {b o : Nat} {l : List Rg} {n : Nat} {W w2 : World} (h : HN w b o l n W) (hb : Below W.heap.size W w2) : HN w b o l n w2 := ⟨h.1.trans (hb.mono h.1.size), h.2.1.step hb, h.2.2.1.step hb, h.2.2.2.step hb⟩
theorem HN.put {w : World} {b o : Nat} {l : List Rg} {n : Nat} {W : World} (hbw : b < w.heap.size) (h : HN w b o l n W) (y : Nat) : HN w b o l y ((W.setCell ⟨w.heap.size, 0, none⟩ (.int .u64 (hi y : Nat))).setCell ⟨w.heap.size, 1, none⟩ (.int .u64 (lo y : Nat))) :=
  ⟨(h.1.setCell (by dsimp only; omega) _).setCell (by dsimp only; omega) _, h.2.1.put y, (h.2.2.1.set (by dsimp only; omega) _).set (by dsimp only; omega) _, (h.2.2.2.set (by dsimp only; omega) _).set (by dsimp only; omega) _⟩
theorem hn_new (w : World) (n : Nat) {b o : Nat} {l : List Rg} (hr : RowR b o l w) : HN w b o l n ((w.alloc (.cells #[.int .u64 (hi n : Nat), .int .u64 (lo n : Nat)] 31)).alloc (.cells #[.int .u64 0, .int .u64 0] 31)) := by
  have h := two_new w n 31
  generalize hV : w.alloc (.cells #[.int .u64 (hi n : Nat), .int .u64 (lo n : Nat)] 31) = V at h
  have hb : Below w.heap.size w V := hV ▸ below_alloc _ _
  have hs : V.heap.size = w.heap.size + 1 := by rw [← hV]; simp
  have h2 := two_zero V 31
  rw [hs] at h2
  exact ⟨chain hb (below_alloc _ _), h.step (below_alloc _ _), h2, (hr.step hb).step (below_alloc _ _)⟩
def HN4 (w : World) (b o : Nat) (l : List Rg) (n g : Nat) (x : Rg) (W : World) : Prop := HN w b o l n W ∧ Four g x W
theorem HN4.step {w : World} {b o : Nat} {l : List Rg} {n g : Nat} {x : Rg} {W w2 : World} (h : HN4 w b o l n g x W) (hb : Below W.heap.size W w2) : HN4 w b o l n g x w2 := ⟨h.1.step hb, h.2.step hb⟩
theorem HN4.drew {w : World} {b o : Nat} {l : List Rg} {n g : Nat} {x : Rg} {W : World} (h : HN4 w b o l n g x W) : HN4 w b o l n g x { W with drawn := W.drawn + 1 } := h.step (Below.refl _ _).drew

set_option maxRecDepth 100000 in
set_option maxHeartbeats 1000000 in
theorem nth_loop {b o c n : Nat} {l : List Rg} (hs : soundL l = true) (hf : FitL l) (fn : Fits n) (hl : l.length ≤ 1000000) (w : World) (hr : RowR b o l w)
    (SB : Hid (∀ W, RowR b o l W → Calls Tryz.prog 38 #[.slice (some ⟨b, o, none⟩) l.length c] W (Gives (.bool true) W))) :
    Calls Tryz.prog 28 #[.slice (some ⟨b, o, none⟩) l.length c, A n] w (Gives (.tuple #[A (nthV l n), .bool (nthO l n)]) w) := by
  have H0 := hn_new w n hr
  have bl := hr.1
  have HS := hide hs
  clear hs
  go_enter Tryz.func28, Tryz.ntmps28
  go_wp2_with fail
  refine (SB.out _ H0.2.2.2).mono ?_
  rintro e w1 ⟨rfl, hb1⟩
  have H1 := H0.step hb1
  clear hb1 H0
  go_wp2
  go_loopw [18] (fun i wr => ∃ (k m : Nat), k ≤ l.length ∧ i = .int .i64 (k : Nat) ∧ HN w b o l m wr ∧ Fits m ∧ nthF (l.drop k) m = nthF l n) (fun i _ => l.length - (intOf i).toNat)
  case atStart => exact ⟨0, n, Nat.zero_le _, rfl, H1, fn, rfl⟩
  case round =>
    obtain ⟨k, m, hk, rfl, HH, fm, he⟩ := hrel
    clear H1
    by_cases hlt : k < l.length
    · obtain ⟨x, hx⟩ := get_some hlt
      have fx := fit_at hf hx
      rw [drop_at' hx, nthF_cons] at he
      have HE := hide he
      clear he
      have ST := hide (fun W => steps_any fx W)
      have NX := hide (fun W => next_any (fits_subS x.2 x.1) W)
      have CM := hide (fun W => cmp_any m (subS x.2 x.1) W)
      have CL := hide (cmp_le m (subS x.2 x.1))
      have AD := hide (fun W => add_any fx.1 fm W)
      have SU := hide (fun W => sub_any fm (fits_addS1 (subS x.2 x.1) 1) W)
      obtain ⟨x1, x2, x3, x4⟩ := HH.2.2.2.2 k x hx
      clear hx
      go_wp2_with fail
      clear x1 x2 x3 x4
      have H1 : HN4 w b o l m wr.heap.size x (wr.alloc (.cells #[.int .u64 (hi x.1 : Nat), .int .u64 (lo x.1 : Nat), .int .u64 (hi x.2 : Nat), .int .u64 (lo x.2 : Nat)] 36)) := ⟨HH.step (below_alloc _ _), four_new _ _ _⟩
      clear HH
      generalize wr.heap.size = g at H1 ⊢
      refine wp_region_quiet (C := HN4 w b o l m g x) (by kernel_rfl) (by kernel_rfl) H1.drew (wpQuiet_step (fun K0 hK0 => ?_))
      go_simp
      refine ⟨A m, fun W hW => ?_, hK0 _ (wpQuiet_step (fun K1 hK1 => ?_))⟩
      · ((obtain ⟨⟨_, ⟨_, u0, u1, _⟩, _⟩, _⟩ := hW; simp [go_sem, u0, u1]))
      clear hK0 K0
      go_simp
      refine ⟨RV x, fun W hW => ?_, hK1 _ (wpQuiet_step (fun K0 hK0 => ?_))⟩
      · ((obtain ⟨_, _, ⟨u0, u1, u2, u3⟩, _⟩ := hW; simp [go_sem, u0, u1, u2, u3]))
      clear hK1 K1
      go_simp
      refine ⟨A (subS x.2 x.1), fun W hW => ?_, hK0 _ (wpQuiet_step (fun K1 hK1 => ?_))⟩
      · exact (ST.out W).mono fun e w2 ⟨he, hb⟩ => ⟨he, HN4.step hW hb⟩
      clear hK0 K0
      go_simp
      refine ⟨.int .i64 (cmpS m (subS x.2 x.1)), fun W hW => ?_, hK1 _ (wpQuiet_step (fun K0 hK0 => ?_))⟩
      · exact (CM.out W).mono fun e w2 ⟨he, hb⟩ => ⟨he, HN4.step hW hb⟩
      clear hK1 K1
      go_simp
      first | (with_reducible refine hK0 _ (wpQuiet_nil ?_)) | (with_reducible refine ⟨_, fun _ _ => rfl, hK0 _ (wpQuiet_nil ?_)⟩) | (rw [if_neg (by intro e; cases e)]; with_reducible refine hK0 _ (wpQuiet_nil ?_))
      clear hK0 K0
      intro w2 H2
      clear H1
      by_cases hle : m ≤ subS x.2 x.1
      · have e1 := HE.out
        rw [if_pos hle] at e1
        have R := hide (nth_some HS.out e1.symm)
        have P0 : cmpS m (subS x.2 x.1) ≤ 0 := by have := CL.out; rw [decide_eq_true hle] at this; simpa using this
        clear e1 hle HE
        obtain ⟨⟨_, ⟨a0, a1, a2, _⟩, ⟨t0, t1, t2, _⟩, _⟩, f0, ⟨f1, f2, f3, f4⟩, _⟩ := id H2
        go_wp2_with fail
        clear a0 a1 a2 t0 t1 t2 f0 f1 f2 f3 f4
        refine (AD.out _).mono ?_
        rintro e w3 ⟨rfl, hb3⟩
        have H3 := H2.step hb3
        clear hb3 H2
        generalize addS x.1 m = y at *
        obtain ⟨⟨HB, ⟨a0, a1, a2, _⟩, ⟨t0, t1, t2, t3, t4⟩, _⟩, _⟩ := id H3
        go_wp2
        refine bodyPost_ret (v := .tuple #[A y, .bool true]) (by simp [results, Tryz.results28, go_sem, t0, t1, t2]) rfl ⟨by rw [R.out.1, R.out.2], ?_⟩
        have hzB := HB.size
        repeat' (first | (with_reducible exact HB) | (with_reducible apply Below.drew) | (with_reducible apply Below.alloc) | (with_reducible apply Below.setCell))
        all_goals first | omega | (dsimp only; omega) | ((try simp); omega)
      · have e1 := HE.out
        rw [if_neg hle] at e1
        have P0 : ¬ cmpS m (subS x.2 x.1) ≤ 0 := by have := CL.out; rw [decide_eq_false hle] at this; simpa using this
        have E1 := hide e1
        clear e1 hle HE
        obtain ⟨⟨_, ⟨a0, a1, a2, _⟩, ⟨t0, t1, t2, _⟩, _⟩, f0, ⟨f1, f2, f3, f4⟩, _⟩ := id H2
        go_wp2_with fail
        clear a0 a1 a2 t0 t1 t2 f0 f1 f2 f3 f4
        refine (ST.out _).mono ?_
        rintro e w3 ⟨rfl, hb3⟩
        have H3 := H2.1.step hb3
        clear hb3 H2
        go_wp2_with fail
        refine (NX.out _).mono ?_
        rintro e w4 ⟨rfl, hb4⟩
        have H4 := H3.step hb4
        clear hb4 H3
        have H5 := H4.step (below_alloc w4 (.cells #[.int .u64 (hi (addS (subS x.2 x.1) 1) : Nat), .int .u64 (lo (addS (subS x.2 x.1) 1) : Nat)] 31))
        obtain ⟨_, ⟨a0, a1, a2, a3, a4⟩, _⟩ := id H4
        go_wp2_with fail
        clear a0 a1 a2 a3 a4
        refine (SU.out _).mono ?_
        rintro e w5 ⟨rfl, hb5⟩
        have H6 := H5.step hb5
        clear hb5 H5 H4
        obtain ⟨_, ⟨a0, a1, a2, a3, a4⟩, _⟩ := id H6
        go_wp2
        go_roundw
        case rel => exact ⟨k + 1, subS m (sizeR x), hlt, by go_num, H6.put bl _, fits_subS _ _, E1.out⟩
        case measure => simp [intOf]; omega
    · have e : l.drop k = [] := List.drop_eq_nil_of_le (by omega)
      rw [e, nthF_nil] at he
      have R := hide (nth_none he.symm)
      clear he e
      obtain ⟨HB, _, ⟨t0, t1, t2, t3, t4⟩, _⟩ := id HH
      go_wp2
      refine bodyPost_ret (v := .tuple #[.agg #[.int .u64 0, .int .u64 0], .bool false]) (by simp [results, Tryz.results28, go_sem, t1, t2]) rfl ⟨by rw [R.out.1, R.out.2]; rfl, ?_⟩
      have hzB := HB.size
      repeat' (first | (with_reducible exact HB) | (with_reducible apply Below.drew) | (with_reducible apply Below.alloc) | (with_reducible apply Below.setCell))
      all_goals first | omega | (dsimp only; omega) | ((try simp); omega)

set_option maxRecDepth 100000 in
set_option maxHeartbeats 400000 in
theorem nth_empty (p : Option Go.Addr) (c n : Nat) (w : World) : Calls Tryz.prog 28 #[.slice p 0 c, A n] w (Gives (.tuple #[.agg #[.int .u64 0, .int .u64 0], .bool false]) w) := by
  have T1 := two_zero (w.alloc (.cells #[.int .u64 (hi n : Nat), .int .u64 (lo n : Nat)] 31)) 31
  rw [World.size_alloc] at T1
  have HB := chain (below_alloc w (.cells #[.int .u64 (hi n : Nat), .int .u64 (lo n : Nat)] 31)) (below_alloc _ (.cells #[.int .u64 0, .int .u64 0] 31))
  go_enter Tryz.func28, Tryz.ntmps28
  go_wp2_with fail
  refine (sound_none p c _).mono ?_
  rintro e w1 ⟨rfl, hb1⟩
  have T2 := T1.step hb1
  have HB2 := chain HB hb1
  clear hb1 T1 HB
  go_wp2
  go_loop [18] (fun i => i = .int .i64 0) (fun _ => 0)
  case atStart => rfl
  case round =>
    obtain rfl := hrel
    obtain ⟨t0, t1, t2, t3, t4⟩ := id T2
    go_wp2
    refine bodyPost_ret (v := .tuple #[.agg #[.int .u64 0, .int .u64 0], .bool false]) (by simp [results, Tryz.results28, go_sem, t1, t2]) rfl ⟨rfl, ?_⟩
    have hzB := HB2.size
    repeat' (first | (with_reducible exact HB2) | (with_reducible apply Below.drew) | (with_reducible apply Below.alloc) | (with_reducible apply Below.setCell))
    all_goals first | omega | (dsimp only; omega) | ((try simp); omega)
set_option maxRecDepth 100000 in
set_option maxHeartbeats 400000 in
theorem nth_bad {v : Value} {l : List Rg} (n : Nat) (w : World) (h : Lst v l w)
    (SB : Hid (∀ W, Lst v l W → Calls Tryz.prog 38 #[v] W (Gives (.bool false) W))) :
    Calls Tryz.prog 28 #[v, A n] w (Gives (.tuple #[.agg #[.int .u64 0, .int .u64 0], .bool false]) w) := by
  obtain ⟨p, c, hv⟩ := lst_len h
  have T1 := two_zero (w.alloc (.cells #[.int .u64 (hi n : Nat), .int .u64 (lo n : Nat)] 31)) 31
  rw [World.size_alloc] at T1
  have HB := chain (below_alloc w (.cells #[.int .u64 (hi n : Nat), .int .u64 (lo n : Nat)] 31)) (below_alloc _ (.cells #[.int .u64 0, .int .u64 0] 31))
  subst hv
  go_enter Tryz.func28, Tryz.ntmps28
  go_wp2_with fail
  refine (SB.out _ (h.step HB)).mono ?_
  rintro e w1 ⟨rfl, hb1⟩
  have T2 := T1.step hb1
  have HB2 := chain HB hb1
  clear hb1 T1 HB
  obtain ⟨t0, t1, t2, t3, t4⟩ := id T2
  go_wp2
  refine bodyPost_ret (v := .tuple #[.agg #[.int .u64 0, .int .u64 0], .bool false]) (by simp [results, Tryz.results28, go_sem, t1, t2]) rfl ⟨rfl, ?_⟩
  have hzB := HB2.size
  repeat' (first | (with_reducible exact HB2) | (with_reducible apply Below.drew) | (with_reducible apply Below.alloc) | (with_reducible apply Below.setCell))
  all_goals first | omega | (dsimp only; omega) | ((try simp); omega)
theorem nth_any {v : Value} {l : List Rg} {n : Nat} (hf : FitL l) (fn : Fits n) (hl : l.length ≤ 1000000) (w : World) (h : Lst v l w) :
    Calls Tryz.prog 28 #[v, A n] w (Gives (.tuple #[A (nthV l n), .bool (nthO l n)]) w) := by
  cases e : soundL l with
  | false =>
    obtain ⟨e1, e2⟩ := nth_unsound n e
    rw [e1, e2]
    exact nth_bad n w h (hide fun W H => via (sound_any hf hl W H) (by rw [e]))
  | true =>
    rcases h with ⟨p, c, rfl, rfl, _⟩ | ⟨b, o, c, rfl, hr, hc, hne, hcb⟩
    · obtain ⟨e1, e2⟩ := nth_none (nthF_nil n)
      rw [e1, e2]
      exact nth_empty p c n w
    · exact nth_loop e hf fn hl w hr (hide fun W H => via (sound_some b o c l hf hl W H) (by rw [e]))
end Go.Proofs.YtfmhpnendcikoaaGreat
