/-
  The document's own answer for Own (tenancyref12.with, Own), and the walk of the law PoolOwns: it returns true. Conditions: the words are words of 64 bits; a slice has at most 2^63 - 1 leases.
-/
import Derived.Test.YtfmhpnendcikoaaPoW
import Derived.Test.YtfmhpnendcikoaaSpanRc
namespace Go.Proofs.Ytfmhpnendcikoaa
open Go.RowKit Go.Joins

theorem ins_mid : ∀ {s t : List Nat} {a : Nat}, (∀ y ∈ s, y < a) → (∀ y ∈ t, a < y) → insA (s ++ t) a = s ++ a :: t
  | [], [], a, _, _ => rfl
  | [], x :: r, a, _, ht => by
    have := ht x (List.mem_cons_self ..)
    show insA (x :: r) a = a :: x :: r
    unfold insA
    rw [if_neg (by omega), if_neg (by omega)]
  | y :: s, t, a, hs, ht => by
    have := hs y (List.mem_cons_self ..)
    show insA (y :: (s ++ t)) a = y :: (s ++ a :: t)
    unfold insA
    rw [if_pos this, ins_mid (fun z hz => hs z (List.mem_cons_of_mem _ hz)) ht]
theorem ins_in : ∀ {s t : List Nat} {a : Nat}, (∀ y ∈ s, y < a) → insA (s ++ a :: t) a = s ++ a :: t
  | [], t, a, _ => by
    show insA (a :: t) a = a :: t
    unfold insA
    rw [if_neg (by omega), if_pos rfl]
  | y :: s, t, a, hs => by
    have := hs y (List.mem_cons_self ..)
    show insA (y :: (s ++ a :: t)) a = y :: (s ++ a :: t)
    unfold insA
    rw [if_pos this, ins_in (fun z hz => hs z (List.mem_cons_of_mem _ hz))]
theorem rsg_at : ∀ {l : List Nat}, Rsg l → ∀ {i j x y : Nat}, i < j → l[i]? = some x → l[j]? = some y → x < y
  | [], _, _, _, _, _, _, h, _ => by simp at h
  | z :: r, hr, 0, j + 1, x, y, _, hx, hy => by
    simp at hx
    subst hx
    exact hr.1 y (List.mem_of_getElem? (by simpa using hy))
  | z :: r, hr, i + 1, j + 1, x, y, hij, hx, hy => rsg_at (i := i) (j := j) hr.2 (by omega) (by simpa using hx) (by simpa using hy)
/-- where with stands behind k addresses of l: nothing greater met, or the address put in at m -/
def WInv (l : List Nat) (a k : Nat) (b : Bool) (out : List Nat) : Prop :=
  (b = false ∧ out = l.take k ∧ ∀ y ∈ l.take k, y < a) ∨ (b = true ∧ ∃ m, m < k ∧ (∀ y ∈ l.take m, y < a) ∧ (∀ y ∈ l.drop m, a < y) ∧ out = l.take m ++ a :: (l.take k).drop m)
theorem winv_lt {l : List Nat} {a k x : Nat} {out : List Nat} (h : WInv l a k false out) (hx : l[k]? = some x) (hl : x < a) : WInv l a (k + 1) false (out ++ [x]) := by
  rcases h with ⟨_, rfl, h2⟩ | ⟨h, _⟩
  · refine Or.inl ⟨rfl, by rw [List.take_add_one, hx]; rfl, fun y hy => ?_⟩
    rw [List.take_add_one, hx] at hy
    rcases List.mem_append.1 hy with hy | hy
    · exact h2 y hy
    · have : y = x := by simpa using hy
      omega
  · cases h
theorem winv_gt {l : List Nat} {a k x : Nat} {out : List Nat} (hr : Rsg l) (h : WInv l a k false out) (hx : l[k]? = some x) (hl : a < x) : WInv l a (k + 1) true (out ++ [a] ++ [x]) := by
  rcases h with ⟨_, rfl, h2⟩ | ⟨h, _⟩
  · refine Or.inr ⟨rfl, k, Nat.lt_succ_self k, h2, fun y hy => ?_, ?_⟩
    · obtain ⟨i, hi⟩ := List.getElem?_of_mem hy
      rw [List.getElem?_drop] at hi
      rcases Nat.eq_zero_or_pos i with h0 | h0
      · subst h0
        rw [Nat.add_zero, hx] at hi
        cases hi
        exact hl
      · have := rsg_at hr (show k < k + i by omega) hx hi
        omega
    · have hlen : k < l.length := (List.getElem?_eq_some_iff.1 hx).1
      rw [List.take_add_one, hx, List.drop_append_of_le_length (by rw [List.length_take]; omega), List.drop_eq_nil_of_le (by rw [List.length_take]; omega)]
      simp
  · cases h
theorem winv_put {l : List Nat} {a k x : Nat} {out : List Nat} (h : WInv l a k true out) (hx : l[k]? = some x) : WInv l a (k + 1) true (out ++ [x]) ∧ a < x := by
  rcases h with ⟨h, _⟩ | ⟨_, m, hm, h1, h2, rfl⟩
  · cases h
  · have hlen : k < l.length := (List.getElem?_eq_some_iff.1 hx).1
    refine ⟨Or.inr ⟨rfl, m, by omega, h1, h2, ?_⟩, h2 x ?_⟩
    · rw [List.take_add_one, hx, List.drop_append_of_le_length (by rw [List.length_take]; omega), List.append_assoc]
      rfl
    · refine List.mem_of_getElem? (i := k - m) ?_
      rw [List.getElem?_drop, show m + (k - m) = k by omega]
      exact hx
theorem winv_eq {l : List Nat} {a k : Nat} {b : Bool} {out : List Nat} (h : WInv l a k b out) (hx : l[k]? = some a) : insA l a = l := by
  have hlen : k < l.length := (List.getElem?_eq_some_iff.1 hx).1
  rcases h with ⟨_, rfl, h2⟩ | ⟨_, m, hm, h1, h2, rfl⟩
  · have e : l = l.take k ++ a :: l.drop (k + 1) := by
      conv => lhs; rw [← List.take_append_drop k l]
      rw [List.drop_eq_getElem_cons hlen, (List.getElem?_eq_some_iff.1 hx).2]
    rw [e]
    exact ins_in (by simpa [List.take_append_of_le_length, List.length_take, Nat.min_eq_left (Nat.le_of_lt hlen)] using h2)
  · have : a < a := h2 a (by
      refine List.mem_of_getElem? (i := k - m) ?_
      rw [List.getElem?_drop, show m + (k - m) = k by omega]
      exact hx)
    omega
theorem winv_end {l : List Nat} {a : Nat} {out : List Nat} (h : WInv l a l.length true out) : insA l a = out := by
  rcases h with ⟨h, _⟩ | ⟨_, m, hm, h1, h2, rfl⟩
  · cases h
  · rw [List.take_length]
    conv => lhs; rw [← List.take_append_drop m l]
    exact ins_mid h1 h2
theorem winv_end0 {l : List Nat} {a : Nat} {out : List Nat} (h : WInv l a l.length false out) : insA l a = out ++ [a] := by
  rcases h with ⟨_, rfl, h2⟩ | ⟨h, _⟩
  · rw [List.take_length] at *
    have := ins_mid (t := []) h2 (fun y hy => by cases hy)
    simpa using this
  · cases h
theorem winv_len {l : List Nat} {a k : Nat} {b : Bool} {out : List Nat} (h : WInv l a k b out) (hk : k ≤ l.length) : out.length ≤ k + 1 := by
  rcases h with ⟨_, rfl, _⟩ | ⟨_, m, hm, _, _, rfl⟩
  · rw [List.length_take]; omega
  · simp [List.length_take, List.length_drop]; omega
theorem ins_len1 (l : List Nat) (a : Nat) : (insA l a).length ≤ l.length + 1 := by
  induction l with
  | nil => simp [insA]
  | cons y t ih =>
    unfold insA
    split
    · simp only [List.length_cons]; omega
    · split <;> simp only [List.length_cons] <;> omega
/-- what with gives: the list itself, or one of the call's own -/
def WithGives (l : List Nat) (w : World) (e : Ending) (w' : World) : Prop := ∃ v, e = .returned v ∧ Below w.heap.size w w' ∧ LstA v l w'
/-- what with keeps -/
def HWi (w : World) (a : Nat) (W : World) : Prop := Below w.heap.size w W ∧ Two w.heap.size a W
theorem HWi.step {w : World} {a : Nat} {W w2 : World} (h : HWi w a W) (hb : Below W.heap.size W w2) : HWi w a w2 := ⟨chain h.1 hb, h.2.step hb⟩
theorem HWi.lo {w : World} {a : Nat} {W : World} (h : HWi w a W) : w.heap.size + 1 ≤ W.heap.size := h.2.1
theorem HWi.base {w : World} {a : Nat} {W w2 : World} (h : HWi w a W) (hb : Below (w.heap.size + 1) W w2) : HWi w a w2 := by
  refine ⟨h.1.trans (hb.mono (Nat.le_succ _)), ?_⟩
  have c : ∀ o, w2.cell? ⟨w.heap.size, o, none⟩ = W.cell? ⟨w.heap.size, o, none⟩ := fun o => hb.cell (p := ⟨w.heap.size, o, none⟩) (Nat.lt_succ_self _)
  have f : ∀ o, w2.frozen? ⟨w.heap.size, o, none⟩ = W.frozen? ⟨w.heap.size, o, none⟩ := fun o => hb.frozen (p := ⟨w.heap.size, o, none⟩) (Nat.lt_succ_self _)
  have := h.2
  unfold Two at *
  rw [c, c, f, f]
  exact ⟨Nat.lt_of_lt_of_le this.1 hb.size, this.2⟩
def HWo (w : World) (a : Nat) (v : Value) (out : List Nat) (W : World) : Prop := HWi w a W ∧ OwnA W (w.heap.size + 1) v out
theorem HWo.step {w : World} {a : Nat} {v : Value} {out : List Nat} {W w2 : World} (h : HWo w a v out W) (hb : Below W.heap.size W w2) : HWo w a v out w2 := ⟨h.1.step hb, own_keep h.2 hb⟩
theorem HWo.drew {w : World} {a : Nat} {v : Value} {out : List Nat} {W : World} (h : HWo w a v out W) : HWo w a v out { W with drawn := W.drawn + 1 } := h.step (Below.refl _ _).drew
set_option maxRecDepth 100000 in
set_option maxHeartbeats 4000000 in
theorem rwithA_any {v : Value} {l : List Nat} {a : Nat} (fl : ∀ b ∈ l, Fits b) (fa : Fits a) (hr : Rsg l) (hl : l.length ≤ 1000) (w : World) (hv : LstA v l w) :
    Calls Try.prog 25 #[v, A a] w (WithGives (insA l a) w) := by
  have HU := hide (fun W (H : Below w.heap.size w W) => hv.step H)
  obtain ⟨q, c, rfl⟩ := lstA_len hv
  have HR := hide hr
  have H0 : HWi w a (w.alloc (.cells #[.int .u64 (hi a : Nat), .int .u64 (lo a : Nat)] 35)) := ⟨below_alloc _ _, two_new _ _ _⟩
  have O1 : OwnA ((w.alloc (.cells #[.int .u64 (hi a : Nat), .int .u64 (lo a : Nat)] 35)).alloc (.cells #[] 35)) (w.heap.size + 1) (.slice (some ⟨w.heap.size + 1, 0, none⟩) 0 0) [] := by
    have := World.ownsRow_lit (base := w.heap.size + 1) (e := 35) (size := 2) (w.alloc (.cells #[.int .u64 (hi a : Nat), .int .u64 (lo a : Nat)] 35)) #[] 0 (by simp) (by unfold maxLen; omega) rfl
    rw [World.size_alloc] at this
    exact this
  have H1 : HWo w a (.slice (some ⟨w.heap.size + 1, 0, none⟩) 0 0) [] ((w.alloc (.cells #[.int .u64 (hi a : Nat), .int .u64 (lo a : Nat)] 35)).alloc (.cells #[] 35)) := ⟨H0.step (below_alloc _ _), O1⟩
  clear hv hr H0 O1
  go_enter Try.func25, Try.ntmps25
  go_wp2
  go_loopw [5, 6, 7] (fun s5 s6 i wr => ∃ (k : Nat) (b : Bool) (out : List Nat), k ≤ l.length ∧ i = .int .i64 (k : Nat) ∧ s6 = .bool b ∧ HWi w a wr ∧ OwnA wr (w.heap.size + 1) s5 out ∧ Hid (WInv l a k b out) ∧ out.length ≤ k + 1) (fun _ _ i _ => l.length - (intOf i).toNat)
  case atStart => exact ⟨0, false, [], Nat.zero_le _, rfl, rfl, H1.1, H1.2, hide (Or.inl ⟨rfl, rfl, fun y hy => by simp at hy⟩), by simp⟩
  case round =>
    clear H1
    obtain ⟨k, b, out, hk, rfl, rfl, HH0, HO, HI, LN⟩ := hrel
    by_cases hlt : k < l.length
    · have HH : HWo w a u5 out wr := ⟨HH0, HO⟩
      clear HH0 HO
      obtain ⟨x, hx⟩ := getA_some hlt
      have fx := fl x (List.mem_of_getElem? hx)
      have RX := hide (fun W (H : Below w.heap.size w W) => lstA_at (HU.out W H) hx)
      obtain ⟨bx, ox, e, _⟩ := RX.out _ HH.1.1
      subst e
      rcases Nat.lt_trichotomy a x with hax | hax | hax
      · have CM := hide (fun W => via (rcmp_any fa fx W) (v' := .int .i64 (-1)) (by rw [cmpS_lt hax]))
        cases b with
        | false =>
          have R := hide (winv_gt HR.out HI.out hx hax)
          clear hx HI hax HR fl
          go_wp2_with fail
          refine wp_region_quiet (C := HWo w a u5 out) (by kernel_rfl) (by kernel_rfl) HH.drew (wpQuiet_step (fun K0 hK0 => ?_))
          go_simp
          refine ⟨A a, fun W hW => ?_, hK0 _ (wpQuiet_step (fun K1 hK1 => ?_))⟩
          · ((obtain ⟨⟨_, _, u0, u1, _, _⟩, _⟩ := id hW; simp [go_sem, u0, u1]))
          clear hK0 K0
          go_simp
          first | (with_reducible refine hK1 _ (wpQuiet_step (fun K0 hK0 => ?_))) | (with_reducible refine ⟨_, fun _ _ => rfl, hK1 _ (wpQuiet_step (fun K0 hK0 => ?_))⟩) | (rw [if_neg (by intro e; cases e)]; with_reducible refine hK1 _ (wpQuiet_step (fun K0 hK0 => ?_)))
          clear hK1 K1
          go_simp
          first | (with_reducible refine hK0 _ (wpQuiet_step (fun K1 hK1 => ?_))) | (with_reducible refine ⟨_, fun _ _ => rfl, hK0 _ (wpQuiet_step (fun K1 hK1 => ?_))⟩) | (rw [if_neg (by intro e; cases e)]; with_reducible refine hK0 _ (wpQuiet_step (fun K1 hK1 => ?_)))
          clear hK0 K0
          go_simp
          first | (with_reducible refine hK1 _ (wpQuiet_step (fun K0 hK0 => ?_))) | (with_reducible refine ⟨_, fun _ _ => rfl, hK1 _ (wpQuiet_step (fun K0 hK0 => ?_))⟩) | (rw [if_neg (by intro e; cases e)]; with_reducible refine hK1 _ (wpQuiet_step (fun K0 hK0 => ?_)))
          clear hK1 K1
          go_simp
          refine ⟨A x, fun W hW => ?_, hK0 _ (wpQuiet_step (fun K1 hK1 => ?_))⟩
          · ((obtain ⟨_, _, e, _, u0, u1⟩ := RX.out W hW.1.1; cases e; simp [go_sem, u0, u1]))
          clear hK0 K0
          go_simp
          refine ⟨.int .i64 (-1), fun W hW => ?_, hK1 _ (wpQuiet_step (fun K0 hK0 => ?_))⟩
          · exact (CM.out W).mono fun e w2 ⟨he, hb⟩ => ⟨he, HWo.step hW hb⟩
          clear hK1 K1
          go_simp
          first | (with_reducible refine hK0 _ (wpQuiet_nil ?_)) | (with_reducible refine ⟨_, fun _ _ => rfl, hK0 _ (wpQuiet_nil ?_)⟩) | (rw [if_neg (by intro e; cases e)]; with_reducible refine hK0 _ (wpQuiet_nil ?_))
          clear hK0 K0
          intro w3 H3
          have T3 := H3.1.2
          obtain ⟨_, t0, t1, _, _⟩ := T3
          have O4 := own_keep H3.2 (below_alloc w3 (.cells #[.int .u64 (hi a : Nat), .int .u64 (lo a : Nat)] 35))
          have H4 := HWi.step H3.1 (below_alloc w3 (.cells #[.int .u64 (hi a : Nat), .int .u64 (lo a : Nat)] 35))
          have NA := own_two (W := w3) (x := a) (t := 35)
          have LNA : out.length + 1 ≤ 1000000 := by omega
          have ZA := H4.lo
          go_upto_region 12 with (at_builtin; refine wpList_append_oneA rfl (.tmp 31) (.tmp 33) rfl (w.heap.size + 1) _ out rfl O4 _ 1 a rfl NA LNA ZA ?_; intro g4 c4 w4 O4' B4 _ _; have H4' : HWo w a (.slice (some ⟨g4, 0, none⟩) (out.length + 1) c4) (out ++ [a]) w4 := ⟨HWi.base H4 B4, by simpa using O4'⟩; clear O4 NA LNA ZA B4 H4 O4' t0 t1)
          have OX := own_keep H4'.2 (below_alloc w4 (.cells #[.int .u64 (hi x : Nat), .int .u64 (lo x : Nat)] 35))
          have HX5 := HWi.step H4'.1 (below_alloc w4 (.cells #[.int .u64 (hi x : Nat), .int .u64 (lo x : Nat)] 35))
          have NX := own_two (W := w4) (x := x) (t := 35)
          have LNX : (out ++ [a]).length + 1 ≤ 1000000 := by simp; omega
          have ZX := HX5.lo
          obtain ⟨_, _, ex, _, x0, x1⟩ := RX.out w4 H4'.1.1
          cases ex
          go_wp2_with (at_builtin; refine wpList_append_oneA rfl (.tmp 35) (.tmp 40) rfl (w.heap.size + 1) _ (out ++ [a]) rfl OX _ 1 x rfl NX LNX ZX ?_; intro g5 c5 w5 O5 B5 _ _; have H5 := HWi.base HX5 B5; clear OX NX LNX ZX B5 HX5)
          go_roundw
          case rel => exact ⟨k + 1, true, out ++ [a] ++ [x], hlt, by go_num, rfl, H5, by simpa using O5, R, winv_len R.out hlt⟩
          case measure => simp [intOf]; omega
        | true =>
          have R := hide (winv_put HI.out hx).1
          clear hx HI hax HR fl
          go_wp2_with fail
          refine wp_region_quiet (C := HWo w a u5 out) (by kernel_rfl) (by kernel_rfl) HH.drew (wpQuiet_step (fun K0 hK0 => ?_))
          go_simp
          refine ⟨A a, fun W hW => ?_, hK0 _ (wpQuiet_step (fun K1 hK1 => ?_))⟩
          · ((obtain ⟨⟨_, _, u0, u1, _, _⟩, _⟩ := id hW; simp [go_sem, u0, u1]))
          clear hK0 K0
          go_simp
          first | (with_reducible refine hK1 _ (wpQuiet_step (fun K0 hK0 => ?_))) | (with_reducible refine ⟨_, fun _ _ => rfl, hK1 _ (wpQuiet_step (fun K0 hK0 => ?_))⟩) | (rw [if_neg (by intro e; cases e)]; with_reducible refine hK1 _ (wpQuiet_step (fun K0 hK0 => ?_)))
          clear hK1 K1
          go_simp
          first | (with_reducible refine hK0 _ (wpQuiet_step (fun K1 hK1 => ?_))) | (with_reducible refine ⟨_, fun _ _ => rfl, hK0 _ (wpQuiet_step (fun K1 hK1 => ?_))⟩) | (rw [if_neg (by intro e; cases e)]; with_reducible refine hK0 _ (wpQuiet_step (fun K1 hK1 => ?_)))
          clear hK0 K0
          go_simp
          first | (with_reducible refine hK1 _ (wpQuiet_step (fun K0 hK0 => ?_))) | (with_reducible refine ⟨_, fun _ _ => rfl, hK1 _ (wpQuiet_step (fun K0 hK0 => ?_))⟩) | (rw [if_neg (by intro e; cases e)]; with_reducible refine hK1 _ (wpQuiet_step (fun K0 hK0 => ?_)))
          clear hK1 K1
          go_simp
          refine ⟨A x, fun W hW => ?_, hK0 _ (wpQuiet_step (fun K1 hK1 => ?_))⟩
          · ((obtain ⟨_, _, e, _, u0, u1⟩ := RX.out W hW.1.1; cases e; simp [go_sem, u0, u1]))
          clear hK0 K0
          go_simp
          refine ⟨.int .i64 (-1), fun W hW => ?_, hK1 _ (wpQuiet_step (fun K0 hK0 => ?_))⟩
          · exact (CM.out W).mono fun e w2 ⟨he, hb⟩ => ⟨he, HWo.step hW hb⟩
          clear hK1 K1
          go_simp
          first | (with_reducible refine hK0 _ (wpQuiet_nil ?_)) | (with_reducible refine ⟨_, fun _ _ => rfl, hK0 _ (wpQuiet_nil ?_)⟩) | (rw [if_neg (by intro e; cases e)]; with_reducible refine hK0 _ (wpQuiet_nil ?_))
          clear hK0 K0
          intro w3 H3
          have OX := own_keep H3.2 (below_alloc w3 (.cells #[.int .u64 (hi x : Nat), .int .u64 (lo x : Nat)] 35))
          have HX5 := HWi.step H3.1 (below_alloc w3 (.cells #[.int .u64 (hi x : Nat), .int .u64 (lo x : Nat)] 35))
          have NX := own_two (W := w3) (x := x) (t := 35)
          have LNX : out.length + 1 ≤ 1000000 := by omega
          have ZX := HX5.lo
          obtain ⟨_, _, ex, _, x0, x1⟩ := RX.out w3 H3.1.1
          cases ex
          go_wp2_with (at_builtin; refine wpList_append_oneA rfl (.tmp 35) (.tmp 40) rfl (w.heap.size + 1) _ out rfl OX _ 1 x rfl NX LNX ZX ?_; intro g5 c5 w5 O5 B5 _ _; have H5 := HWi.base HX5 B5; clear OX NX LNX ZX B5 HX5)
          go_roundw
          case rel => exact ⟨k + 1, true, out ++ [x], hlt, by go_num, rfl, H5, by simpa using O5, R, winv_len R.out hlt⟩
          case measure => simp [intOf]; omega
      · subst hax
        have CM := hide (fun W => via (rcmp_any fa fx W) (v' := .int .i64 0) (by rw [cmpS_eq rfl]))
        have R := hide (winv_eq HI.out hx)
        clear hx HI
        go_wp2_with fail
        refine wp_region_quiet (C := HWo w a u5 out) (by kernel_rfl) (by kernel_rfl) HH.drew (wpQuiet_step (fun K0 hK0 => ?_))
        go_simp
        refine ⟨A a, fun W hW => ?_, hK0 _ (wpQuiet_step (fun K1 hK1 => ?_))⟩
        · ((obtain ⟨⟨_, _, u0, u1, _, _⟩, _⟩ := id hW; simp [go_sem, u0, u1]))
        clear hK0 K0
        go_simp
        first | (with_reducible refine hK1 _ (wpQuiet_step (fun K0 hK0 => ?_))) | (with_reducible refine ⟨_, fun _ _ => rfl, hK1 _ (wpQuiet_step (fun K0 hK0 => ?_))⟩) | (rw [if_neg (by intro e; cases e)]; with_reducible refine hK1 _ (wpQuiet_step (fun K0 hK0 => ?_)))
        clear hK1 K1
        go_simp
        first | (with_reducible refine hK0 _ (wpQuiet_step (fun K1 hK1 => ?_))) | (with_reducible refine ⟨_, fun _ _ => rfl, hK0 _ (wpQuiet_step (fun K1 hK1 => ?_))⟩) | (rw [if_neg (by intro e; cases e)]; with_reducible refine hK0 _ (wpQuiet_step (fun K1 hK1 => ?_)))
        clear hK0 K0
        go_simp
        first | (with_reducible refine hK1 _ (wpQuiet_step (fun K0 hK0 => ?_))) | (with_reducible refine ⟨_, fun _ _ => rfl, hK1 _ (wpQuiet_step (fun K0 hK0 => ?_))⟩) | (rw [if_neg (by intro e; cases e)]; with_reducible refine hK1 _ (wpQuiet_step (fun K0 hK0 => ?_)))
        clear hK1 K1
        go_simp
        refine ⟨A a, fun W hW => ?_, hK0 _ (wpQuiet_step (fun K1 hK1 => ?_))⟩
        · ((obtain ⟨_, _, e, _, u0, u1⟩ := RX.out W hW.1.1; cases e; simp [go_sem, u0, u1]))
        clear hK0 K0
        go_simp
        refine ⟨.int .i64 0, fun W hW => ?_, hK1 _ (wpQuiet_step (fun K0 hK0 => ?_))⟩
        · exact (CM.out W).mono fun e w2 ⟨he, hb⟩ => ⟨he, HWo.step hW hb⟩
        clear hK1 K1
        go_simp
        first | (with_reducible refine hK0 _ (wpQuiet_nil ?_)) | (with_reducible refine ⟨_, fun _ _ => rfl, hK0 _ (wpQuiet_nil ?_)⟩) | (rw [if_neg (by intro e; cases e)]; with_reducible refine hK0 _ (wpQuiet_nil ?_))
        clear hK0 K0
        intro w3 H3
        go_wp2
        go_ret
        exact ⟨_, rfl, H3.1.1, by rw [R.out]; exact HU.out _ H3.1.1⟩
      · have CM := hide (fun W => via (rcmp_any fa fx W) (v' := .int .i64 1) (by rw [cmpS_gt hax]))
        cases b with
        | true => exact absurd (winv_put HI.out hx).2 (by omega)
        | false =>
          have R := hide (winv_lt HI.out hx hax)
          clear hx HI hax HR fl
          go_wp2_with fail
          refine wp_region_quiet (C := HWo w a u5 out) (by kernel_rfl) (by kernel_rfl) HH.drew (wpQuiet_step (fun K0 hK0 => ?_))
          go_simp
          refine ⟨A a, fun W hW => ?_, hK0 _ (wpQuiet_step (fun K1 hK1 => ?_))⟩
          · ((obtain ⟨⟨_, _, u0, u1, _, _⟩, _⟩ := id hW; simp [go_sem, u0, u1]))
          clear hK0 K0
          go_simp
          first | (with_reducible refine hK1 _ (wpQuiet_step (fun K0 hK0 => ?_))) | (with_reducible refine ⟨_, fun _ _ => rfl, hK1 _ (wpQuiet_step (fun K0 hK0 => ?_))⟩) | (rw [if_neg (by intro e; cases e)]; with_reducible refine hK1 _ (wpQuiet_step (fun K0 hK0 => ?_)))
          clear hK1 K1
          go_simp
          first | (with_reducible refine hK0 _ (wpQuiet_step (fun K1 hK1 => ?_))) | (with_reducible refine ⟨_, fun _ _ => rfl, hK0 _ (wpQuiet_step (fun K1 hK1 => ?_))⟩) | (rw [if_neg (by intro e; cases e)]; with_reducible refine hK0 _ (wpQuiet_step (fun K1 hK1 => ?_)))
          clear hK0 K0
          go_simp
          first | (with_reducible refine hK1 _ (wpQuiet_step (fun K0 hK0 => ?_))) | (with_reducible refine ⟨_, fun _ _ => rfl, hK1 _ (wpQuiet_step (fun K0 hK0 => ?_))⟩) | (rw [if_neg (by intro e; cases e)]; with_reducible refine hK1 _ (wpQuiet_step (fun K0 hK0 => ?_)))
          clear hK1 K1
          go_simp
          refine ⟨A x, fun W hW => ?_, hK0 _ (wpQuiet_step (fun K1 hK1 => ?_))⟩
          · ((obtain ⟨_, _, e, _, u0, u1⟩ := RX.out W hW.1.1; cases e; simp [go_sem, u0, u1]))
          clear hK0 K0
          go_simp
          refine ⟨.int .i64 1, fun W hW => ?_, hK1 _ (wpQuiet_step (fun K0 hK0 => ?_))⟩
          · exact (CM.out W).mono fun e w2 ⟨he, hb⟩ => ⟨he, HWo.step hW hb⟩
          clear hK1 K1
          go_simp
          first | (with_reducible refine hK0 _ (wpQuiet_nil ?_)) | (with_reducible refine ⟨_, fun _ _ => rfl, hK0 _ (wpQuiet_nil ?_)⟩) | (rw [if_neg (by intro e; cases e)]; with_reducible refine hK0 _ (wpQuiet_nil ?_))
          clear hK0 K0
          intro w3 H3
          have OX := own_keep H3.2 (below_alloc w3 (.cells #[.int .u64 (hi x : Nat), .int .u64 (lo x : Nat)] 35))
          have HX5 := HWi.step H3.1 (below_alloc w3 (.cells #[.int .u64 (hi x : Nat), .int .u64 (lo x : Nat)] 35))
          have NX := own_two (W := w3) (x := x) (t := 35)
          have LNX : out.length + 1 ≤ 1000000 := by omega
          have ZX := HX5.lo
          obtain ⟨_, _, ex, _, x0, x1⟩ := RX.out w3 H3.1.1
          cases ex
          go_wp2_with (at_builtin; refine wpList_append_oneA rfl (.tmp 35) (.tmp 40) rfl (w.heap.size + 1) _ out rfl OX _ 1 x rfl NX LNX ZX ?_; intro g5 c5 w5 O5 B5 _ _; have H5 := HWi.base HX5 B5; clear OX NX LNX ZX B5 HX5)
          go_roundw
          case rel => exact ⟨k + 1, false, out ++ [x], hlt, by go_num, rfl, H5, by simpa using O5, R, winv_len R.out hlt⟩
          case measure => simp [intOf]; omega
    · have e : k = l.length := by omega
      cases b with
      | true =>
        have R := hide (winv_end (e ▸ HI.out))
        clear HI e
        go_wp2
        go_ret
        exact ⟨_, rfl, HH0.1, by rw [R.out]; exact ownA_lst HO⟩
      | false =>
        have R := hide (winv_end0 (e ▸ HI.out))
        clear HI e
        obtain ⟨_, t0, t1, _, _⟩ := HH0.2
        have O4 := own_keep HO (below_alloc wr (.cells #[.int .u64 (hi a : Nat), .int .u64 (lo a : Nat)] 35))
        have H4 := HWi.step HH0 (below_alloc wr (.cells #[.int .u64 (hi a : Nat), .int .u64 (lo a : Nat)] 35))
        have NA := own_two (W := wr) (x := a) (t := 35)
        have LNA : out.length + 1 ≤ 1000000 := by omega
        have ZA := H4.lo
        clear HO
        go_wp2_with (at_builtin; refine wpList_append_oneA rfl (.tmp 44) (.tmp 46) rfl (w.heap.size + 1) _ out rfl O4 _ 1 a rfl NA LNA ZA ?_; intro g4 c4 w4 O4' B4 _ _; have H4' := HWi.base H4 B4; clear O4 NA LNA ZA B4 H4)
        go_ret
        refine ⟨_, rfl, H4'.1, ?_⟩
        rw [R.out]
        have := ownA_lst O4'
        simpa using this

/-! ### the document's own Own, and the law -/
theorem upL_ok (l : List Nat) : Rsg (upL l) := (up_spec l).1
set_option maxRecDepth 100000 in
set_option maxHeartbeats 2000000 in
theorem rown_any {q : Option Go.Addr} {c : Nat} {l : List Lz} (kind : Int) (ok : ∀ x ∈ l, x.ok) (hl : l.length ≤ 1000) (w : World) (hv : LstZ q l w) :
    Calls Try.prog 10 #[.slice q l.length c, .int .i64 kind] w (WithGives (ownS l kind) w) := by
  have HV := hide (fun W (H : Below w.heap.size w W) => hv.step H)
  have FL := hide (fun k => Nat.le_trans (ownF_len (l.take k) kind) (by rw [List.length_take]; exact Nat.min_le_left k l.length))
  have WC := hide (fun (k : Nat) (a : Nat) (ha : Fits a) (hk : k ≤ 1000) W v (H : LstA v (upL (ownF (l.take k) kind)) W) => rwithA_any (v := v) (l := upL (ownF (l.take k) kind)) (fun b hb => by
    have h1 := ((up_spec _).2.2 b).1 hb
    unfold ownF at h1
    obtain ⟨z, hz, rfl⟩ := List.mem_map.1 h1
    exact (ok z (List.mem_of_mem_take (List.mem_filter.1 hz).1)).p) ha (upL_ok _) (Nat.le_trans (up_spec _).2.1 (Nat.le_trans (FL.out k) hk)) W H)
  have OKs := hide ok
  have B0 := below_alloc w (.cells #[] 35)
  clear hv ok
  go_enter Try.func10, Try.ntmps10
  go_wp2
  go_loopw [5, 6] (fun s5 i wr => ∃ k : Nat, k ≤ l.length ∧ i = .int .i64 (k : Nat) ∧ Below w.heap.size w wr ∧ LstA s5 (upL (ownF (l.take k) kind)) wr) (fun _ i _ => l.length - (intOf i).toNat)
  case atStart => exact ⟨0, Nat.zero_le _, rfl, B0, Or.inl ⟨_, _, rfl, by rw [List.take_zero]; rfl, fun e => (by cases e), by omega⟩⟩
  case round =>
    clear B0
    obtain ⟨k, hk, rfl, HB, HL⟩ := hrel
    by_cases hlt : k < l.length
    · obtain ⟨x, hx⟩ : ∃ x, l[k]? = some x := ⟨_, List.getElem?_eq_getElem hlt⟩
      have fx := (OKs.out x (List.mem_of_getElem? hx)).p
      have FT := hide (ownF_take hx kind)
      obtain ⟨b, o, e, x0, x1, x2, _⟩ := HV.out _ HB k x hx
      subst e
      obtain ⟨ki, p, n, st, cl, ia, un⟩ := x
      simp only at x0 x1 x2 fx
      clear hx
      cases ek : (ki == kind) with
      | true =>
        have WC1 := hide (WC.out k p fx (by omega) _ _ HL)
        have FN := hide (show insA (upL (ownF (l.take k) kind)) p = upL (ownF (l.take (k + 1)) kind) by
          rw [FT.out, if_pos ek]; unfold upL; rw [List.foldl_append]; rfl)
        clear FT WC HL
        go_wp2_with fail
        refine WC1.out.mono ?_
        rintro e w3 ⟨v3, rfl, hb3, L3⟩
        rw [FN.out] at L3
        have HB3 := chain HB hb3
        clear WC1 hb3 HB x0 x1 x2
        go_wp2
        go_roundw
        case rel => exact ⟨k + 1, hlt, by go_num, HB3, L3⟩
        case measure => simp [intOf]; omega
      | false =>
        have FN := hide (show ownF (l.take (k + 1)) kind = ownF (l.take k) kind by rw [FT.out, if_neg (by simp only; rw [ek]; simp)])
        clear FT WC
        go_wp2
        go_roundw
        case rel => exact ⟨k + 1, hlt, by go_num, HB, by rw [FN.out]; exact HL⟩
        case measure => simp [intOf]; omega
    · have e : l.take k = l := List.take_of_length_le (by omega)
      have FE := hide (show LstA u5 (ownS l kind) wr by rw [e] at HL; exact HL)
      clear e HL WC
      go_wp2
      go_ret
      exact ⟨_, rfl, HB, FE.out⟩
set_option maxRecDepth 100000 in
set_option maxHeartbeats 2000000 in
theorem owns_any {q : Option Go.Addr} {c : Nat} {l : List Lz} (kind : Int) (ok : ∀ x ∈ l, x.ok) (hm : l.length ≤ maxLen) (w : World) (hv : LstZ q l w) :
    Calls Try.prog 3 #[.slice q l.length c, .int .i64 kind] w (Gives (.bool true) w) := by
  have HV := hide (fun W (H : Below w.heap.size w W) => hv.step H)
  have OKs := hide ok
  have LM : (l.length : Int) ≤ 9223372036854775807 := by unfold maxLen at hm; omega
  clear hv ok hm
  go_enter Try.func3, Try.ntmps3
  go_wp2_with fail
  refine (awake_any _).mono ?_
  rintro e w1 ⟨rfl, hb1⟩
  by_cases hl : 100 < l.length
  · have E : (100 : Int) < (l.length : Int) := by omega
    go_wp2
    go_ret
    exact ⟨rfl, hb1⟩
  have OW := hide (fun k W (H : Below w.heap.size w W) => own_any (c := c) (l := l) k (by omega) W (HV.out W H))
  have RO := hide (fun k W (H : Below w.heap.size w W) => rown_any (c := c) (l := l) k OKs.out (by omega) W (HV.out W H))
  have LI := hide (fun k W v u (H : LstA v (ownS l k) W) (K : LstA u (ownS l k) W) => via (list_any (l := ownS l k) (m := ownS l k) (Nat.le_trans ((up_spec _).2.1) (Nat.le_trans (ownF_len l k) (by omega))) W H K) (v' := .bool true) (by simp))
  clear OKs HV
  go_wp2
  go_loopw [5] (fun i wr => ∃ k : Nat, k ≤ 6 ∧ i = .int .i64 (k : Nat) ∧ Below w.heap.size w wr) (fun i _ => 6 - (intOf i).toNat)
  case atStart => exact ⟨0, Nat.zero_le _, rfl, hb1⟩
  case round =>
    clear hb1
    obtain ⟨k, hk, rfl, HB⟩ := hrel
    by_cases hlt : k < 6
    · have E : (k : Int) < 6 := by omega
      go_wp2_with fail
      refine (OW.out _ _ HB).mono ?_
      rintro e w2 ⟨v2, rfl, hb2, O2⟩
      have HB2 := chain HB hb2
      have L2 := ownA_lst O2
      clear hb2 O2 HB
      go_wp2_with fail
      refine (RO.out _ _ HB2).mono ?_
      rintro e w3 ⟨v3, rfl, hb3, L3⟩
      have HB3 := chain HB2 hb3
      have L2' := L2.step hb3
      clear hb3 L2 HB2
      go_wp2_with fail
      refine (LI.out _ _ _ _ L2' L3).mono ?_
      rintro e w4 ⟨rfl, hb4⟩
      have HB4 := chain HB3 hb4
      clear HB3 L2' L3 hb4
      go_wp2
      go_roundw
      case rel => exact ⟨k + 1, hlt, by go_num, HB4⟩
      case measure => simp [intOf]; omega
    · have E : ¬ (k : Int) < 6 := by omega
      go_wp2_with fail
      refine (OW.out _ _ HB).mono ?_
      rintro e w2 ⟨v2, rfl, hb2, O2⟩
      have HB2 := chain HB hb2
      have L2 := ownA_lst O2
      clear hb2 O2 HB
      go_wp2_with fail
      refine (RO.out _ _ HB2).mono ?_
      rintro e w3 ⟨v3, rfl, hb3, L3⟩
      have HB3 := chain HB2 hb3
      have L2' := L2.step hb3
      clear hb3 L2 HB2
      go_wp2_with fail
      refine (LI.out _ _ _ _ L2' L3).mono ?_
      rintro e w4 ⟨rfl, hb4⟩
      have HB4 := chain HB3 hb4
      clear HB3 L2' L3 hb4
      go_wp2
      go_ret
      exact ⟨rfl, HB4⟩
end Go.Proofs.Ytfmhpnendcikoaa
