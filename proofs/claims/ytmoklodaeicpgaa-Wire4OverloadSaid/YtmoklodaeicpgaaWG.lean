/-
  The contracts of overloaded and takeAreas. Conditions: an area has at most 2^60 bytes; a row of options takes at most 2^47 bytes.
-/
import Derived.Test.YtmoklodaeicpgaaWF
namespace Go.Proofs.Ytmoklodaeicpgaa
open Go.RowKit Go.Joins

def ovK (n : Nat) : List Nat := (if n = 1 ∨ n = 3 then [13] else []) ++ (if n = 2 ∨ n = 3 then [12] else [])
/-- a row of pointers to fields of a box -/
def LstP (b : Nat) (v : Value) (ks : List Nat) (W : World) : Prop := (ks = [] ∧ v = .slice none 0 0) ∨ ∃ g, v = .slice (some ⟨g, 0, none⟩) ks.length ks.length ∧ W.heap[g]? = some (.cells (ks.map (fun k => Value.pointer (some ⟨b, k, none⟩))).toArray 79 (0, 0))
theorem LstP.step {b : Nat} {v : Value} {ks : List Nat} {W W2 : World} (h : LstP b v ks W) (hb : Below W.heap.size W W2) : LstP b v ks W2 := by
  rcases h with h | ⟨g, h1, h2⟩
  · exact Or.inl h
  · exact Or.inr ⟨g, h1, (hb.block g (lt_of_block h2)).trans h2⟩
theorem lstP_len {b : Nat} {v : Value} {ks : List Nat} {W : World} (h : LstP b v ks W) : ∃ p c, v = .slice p ks.length c := by
  rcases h with ⟨rfl, h⟩ | ⟨g, h1, _⟩
  · exact ⟨none, 0, h⟩
  · exact ⟨_, _, h1⟩
theorem lstP_at {b : Nat} {p : Option Go.Addr} {n c : Nat} {ks : List Nat} {W : World} (h : LstP b (.slice p n c) ks W) {j k : Nat} (hj : ks[j]? = some k) : ∃ g, p = some ⟨g, 0, none⟩ ∧ W.cell? ⟨g, j, none⟩ = some (.pointer (some ⟨b, k, none⟩)) := by
  rcases h with ⟨rfl, _⟩ | ⟨g, h1, h2⟩
  · cases hj
  · cases h1
    refine ⟨g, rfl, ?_⟩
    rw [cell_at h2, List.getElem?_toArray, List.getElem?_map, hj]; rfl
theorem ov_cases (l : List Opt) : (ovN l = some 0 ∧ hasC 52 l = false) ∨ (hasC 52 l = true ∧ ((findD l 52 = ⟨#[1]⟩ ∧ ovN l = some 1) ∨ (findD l 52 ≠ ⟨#[1]⟩ ∧ findD l 52 = ⟨#[2]⟩ ∧ ovN l = some 2) ∨ (findD l 52 ≠ ⟨#[1]⟩ ∧ findD l 52 ≠ ⟨#[2]⟩ ∧ findD l 52 = ⟨#[3]⟩ ∧ ovN l = some 3) ∨ (findD l 52 ≠ ⟨#[1]⟩ ∧ findD l 52 ≠ ⟨#[2]⟩ ∧ findD l 52 ≠ ⟨#[3]⟩ ∧ ovN l = none))) := by
  unfold ovN
  cases h : hasC 52 l with
  | false => exact Or.inl ⟨rfl, rfl⟩
  | true =>
    refine Or.inr ⟨rfl, ?_⟩
    rw [if_neg (by simp)]
    by_cases h1 : findD l 52 = ⟨#[1]⟩
    · rw [if_pos h1]; exact Or.inl ⟨h1, rfl⟩
    rw [if_neg h1]
    by_cases h2 : findD l 52 = ⟨#[2]⟩
    · rw [if_pos h2]; exact Or.inr (Or.inl ⟨h1, h2, rfl⟩)
    rw [if_neg h2]
    by_cases h3 : findD l 52 = ⟨#[3]⟩
    · rw [if_pos h3]; exact Or.inr (Or.inr (Or.inl ⟨h1, h2, h3, rfl⟩))
    · rw [if_neg h3]; exact Or.inr (Or.inr (Or.inr ⟨h1, h2, h3, rfl⟩))
theorem str_ne {d : ByteArray} {l : List UInt8} (h : d ≠ ⟨l.toArray⟩) : (d.toList == l) = false := by
  rw [ByteArray.toList_eq, beq_eq_false_iff_ne]
  intro e
  exact h (by rw [← e])
theorem str_eq {d : ByteArray} {l : List UInt8} (h : d = ⟨l.toArray⟩) : (d.toList == l) = true := by
  rw [ByteArray.toList_eq, h]; simp
/-- what overloaded gives -/
def OvP (b : Nat) (l : List Opt) (w : World) (e : Ending) (w2 : World) : Prop := Below w.heap.size w w2 ∧ ((ovN l = none ∧ e = .returned (.tuple #[.slice none 0 0, .int .i64 130])) ∨ ∃ n v, ovN l = some n ∧ e = .returned (.tuple #[v, .int .i64 0]) ∧ LstP b v (ovK n) w2)
set_option maxRecDepth 100000 in
set_option maxHeartbeats 4000000 in
theorem over_any (b : Nat) {v : Value} {l : List Opt} (hl : l.length * 24 ≤ 140737488355328) (w : World) (hv : LstO v l w) :
    Calls Try.prog 55 #[.pointer (some ⟨b, 0, none⟩), v] w (OvP b l w) := by
  have FI := hide (find_any 52 hl w hv)
  clear hv
  rcases ov_cases l with ⟨h1, h2⟩ | ⟨h2, h⟩
  · rw [h2] at FI
    generalize findD l 52 = d at *
    have H1 := hide h1
    clear h1 h2
    go_enter Try.func55, Try.ntmps55
    go_wp2_with fail
    refine FI.out.mono ?_
    rintro e w2 ⟨rfl, hb2⟩
    go_wp2
    go_ret2
    exact ⟨hb2, Or.inr ⟨0, _, H1.out, rfl, Or.inl ⟨rfl, rfl⟩⟩⟩
  · rw [h2] at FI
    generalize findD l 52 = d at *
    rcases h with ⟨h1, h3⟩ | ⟨h0, h1, h3⟩ | ⟨h00, h0, h1, h3⟩ | ⟨h00, h0, h1, h3⟩
    · have H3 := hide h3
      have F1 := str_eq (l := [1]) h1
      clear h1
      clear h3
      go_enter Try.func55, Try.ntmps55
      go_wp2_with fail
      refine FI.out.mono ?_
      rintro e w2 ⟨rfl, hb2⟩
      go_wp2
      go_ret2
      exact ⟨hb2.trans ((below_alloc w2 _).mono hb2.size), Or.inr ⟨1, _, H3.out, rfl, Or.inr ⟨_, rfl, heap_alloc_new _ _⟩⟩⟩
    · have H3 := hide h3
      have F1 := str_ne (l := [1]) h0
      have F2 := str_eq (l := [2]) h1
      clear h0 h1
      clear h3
      go_enter Try.func55, Try.ntmps55
      go_wp2_with fail
      refine FI.out.mono ?_
      rintro e w2 ⟨rfl, hb2⟩
      go_wp2
      go_ret2
      exact ⟨hb2.trans ((below_alloc w2 _).mono hb2.size), Or.inr ⟨2, _, H3.out, rfl, Or.inr ⟨_, rfl, heap_alloc_new _ _⟩⟩⟩
    · have H3 := hide h3
      have F1 := str_ne (l := [1]) h00
      have F2 := str_ne (l := [2]) h0
      have F3 := str_eq (l := [3]) h1
      clear h00 h0 h1
      clear h3
      go_enter Try.func55, Try.ntmps55
      go_wp2_with fail
      refine FI.out.mono ?_
      rintro e w2 ⟨rfl, hb2⟩
      go_wp2
      refine wp_region_rel (fun W => Below w.heap.size w W) [some 30, some 31, some 32, some 33, some 34, some 35, some 36, some 4, some 5] [fun yy _ => yy = .pointer (some ⟨b, 0, none⟩), fun yy _ => yy = .pointer (some ⟨b, 0, none⟩), fun yy _ => yy = .pointer (some ⟨b, 13, none⟩), fun yy _ => yy = .pointer (some ⟨b, 0, none⟩), fun yy _ => yy = .pointer (some ⟨b, 0, none⟩), fun yy _ => yy = .pointer (some ⟨b, 12, none⟩), fun yy W => ∃ g, yy = .slice (some ⟨g, 0, none⟩) 2 2 ∧ W.heap[g]? = some (.cells #[.pointer (some ⟨b, 13, none⟩), .pointer (some ⟨b, 12, none⟩)] 79 (0, 0)), fun yy W => ∃ g, yy = .slice (some ⟨g, 0, none⟩) 2 2 ∧ W.heap[g]? = some (.cells #[.pointer (some ⟨b, 13, none⟩), .pointer (some ⟨b, 12, none⟩)] 79 (0, 0)), fun yy _ => yy = .int .i64 0] 37 (by kernel_rfl) (by kernel_rfl) rfl rfl (hb2.drew) ?_ ?_
      · refine ⟨⟨fun _ _ _ h _ => h, fun a' W K hC hd hf hK => ?_⟩, ⟨fun _ _ _ h _ => h, fun a' W K hC hd hf hK => ?_⟩, ⟨fun _ _ _ h _ => h, fun a' W K hC hd hf hK => ?_⟩, ⟨fun _ _ _ h _ => h, fun a' W K hC hd hf hK => ?_⟩, ⟨fun _ _ _ h _ => h, fun a' W K hC hd hf hK => ?_⟩, ⟨fun _ _ _ h _ => h, fun a' W K hC hd hf hK => ?_⟩, ⟨fun _ _ _ ⟨g, h0, h1⟩ hb => ⟨g, h0, (hb.block g (lt_of_block h1)).trans h1⟩, fun a' W K hC hd hf hK => ?_⟩, ⟨fun _ _ _ ⟨g, h0, h1⟩ hb => ⟨g, h0, (hb.block g (lt_of_block h1)).trans h1⟩, fun a' W K hC hd hf hK => ?_⟩, ⟨fun _ _ _ h _ => h, fun a' W K hC hd hf hK => ?_⟩, trivial⟩
        · refine op_plain rfl ?_
          have f0 : a'.tmps[0]?.getD undef = .pointer (some ⟨b, 0, none⟩) := (hf.out 0 (by kernel_rfl)).trans (by simp)
          go_simp
          exact hK.out _ _ hC (Below.refl _ _) rfl
        · refine op_plain rfl ?_
          have d30 : a'.tmps[30]?.getD undef = .pointer (some ⟨b, 0, none⟩) := hd.out 0 30 (by kernel_rfl) rfl
          go_simp
          exact hK.out _ _ hC (Below.refl _ _) rfl
        · refine op_plain rfl ?_
          have d31 : a'.tmps[31]?.getD undef = .pointer (some ⟨b, 0, none⟩) := hd.out 1 31 (by kernel_rfl) rfl
          go_simp
          exact hK.out _ _ hC (Below.refl _ _) rfl
        · refine op_plain rfl ?_
          have f0 : a'.tmps[0]?.getD undef = .pointer (some ⟨b, 0, none⟩) := (hf.out 0 (by kernel_rfl)).trans (by simp)
          go_simp
          exact hK.out _ _ hC (Below.refl _ _) rfl
        · refine op_plain rfl ?_
          have d33 : a'.tmps[33]?.getD undef = .pointer (some ⟨b, 0, none⟩) := hd.out 3 33 (by kernel_rfl) rfl
          go_simp
          exact hK.out _ _ hC (Below.refl _ _) rfl
        · refine op_plain rfl ?_
          have d34 : a'.tmps[34]?.getD undef = .pointer (some ⟨b, 0, none⟩) := hd.out 4 34 (by kernel_rfl) rfl
          go_simp
          exact hK.out _ _ hC (Below.refl _ _) rfl
        · refine op_plain rfl ?_
          have d32 : a'.tmps[32]?.getD undef = .pointer (some ⟨b, 13, none⟩) := hd.out 2 32 (by kernel_rfl) rfl
          have d35 : a'.tmps[35]?.getD undef = .pointer (some ⟨b, 12, none⟩) := hd.out 5 35 (by kernel_rfl) rfl
          go_simp
          exact hK.out _ _ (hC.trans ((below_alloc W _).mono hC.size)) (below_alloc W _) ⟨_, rfl, heap_alloc_new _ _⟩
        · refine op_plain rfl ?_
          have d36 := hd.out 6 36 (by kernel_rfl) rfl
          obtain ⟨g, e9, o9⟩ := d36
          go_simp
          exact hK.out _ _ hC (Below.refl _ _) ⟨g, rfl, o9⟩
        · refine op_plain rfl ?_
          go_simp
          exact hK.out _ _ hC (Below.refl _ _) rfl
      · intro vs W5 H5 hR
        have q0 : vs 0 = .pointer (some ⟨b, 0, none⟩) := hR.out 0 (by decide)
        have q1 : vs 1 = .pointer (some ⟨b, 0, none⟩) := hR.out 1 (by decide)
        have q2 : vs 2 = .pointer (some ⟨b, 13, none⟩) := hR.out 2 (by decide)
        have q3 : vs 3 = .pointer (some ⟨b, 0, none⟩) := hR.out 3 (by decide)
        have q4 : vs 4 = .pointer (some ⟨b, 0, none⟩) := hR.out 4 (by decide)
        have q5 : vs 5 = .pointer (some ⟨b, 12, none⟩) := hR.out 5 (by decide)
        have r6 := hR.out 6 (by decide)
        generalize hq6 : vs 6 = q6 at *
        change (fun yy W => ∃ g, yy = .slice (some ⟨g, 0, none⟩) 2 2 ∧ W.heap[g]? = some (.cells #[.pointer (some ⟨b, 13, none⟩), .pointer (some ⟨b, 12, none⟩)] 79 (0, 0))) q6 W5 at r6
        have r7 := hR.out 7 (by decide)
        generalize hq7 : vs 7 = q7 at *
        change (fun yy W => ∃ g, yy = .slice (some ⟨g, 0, none⟩) 2 2 ∧ W.heap[g]? = some (.cells #[.pointer (some ⟨b, 13, none⟩), .pointer (some ⟨b, 12, none⟩)] 79 (0, 0))) q7 W5 at r7
        have q8 : vs 8 = .int .i64 0 := hR.out 8 (by decide)
        simp only [fillF, Act.put, List.setIfInBounds_toArray, List.set_cons_zero, List.set_cons_succ, Nat.reduceAdd, q0, q1, q2, q3, q4, q5, hq6, hq7, q8]
        clear hR q0 q1 q2 q3 q4 q5 hq6 hq7 q8
        obtain ⟨g, rfl, hg⟩ := r7
        go_wp2
        go_ret2
        exact ⟨H5, Or.inr ⟨3, _, H3.out, rfl, Or.inr ⟨g, rfl, hg⟩⟩⟩
    · have H3 := hide h3
      have F1 := str_ne (l := [1]) h00
      have F2 := str_ne (l := [2]) h0
      have F3 := str_ne (l := [3]) h1
      clear h3 h00 h0 h1
      go_enter Try.func55, Try.ntmps55
      go_wp2_with fail
      refine FI.out.mono ?_
      rintro e w2 ⟨rfl, hb2⟩
      go_wp2
      go_ret2
      exact ⟨hb2, Or.inl ⟨H3.out, rfl⟩⟩
/-! ### takeAreas -/
def fld (h : Hd) (k : Nat) : ByteArray := if k = 13 then h.file else h.name
def nulK (k : Nat) : ByteArray := if k = 13 then nul 128 else nul 64
def stepK (h : Hd) (k : Nat) : Hd := if k = 13 then { h with file := nul 128 } else { h with name := nul 64 }
def goK : List Nat → Hd → List ByteArray → Hd × List ByteArray
  | [], h, ar => (h, ar)
  | k :: r, h, ar => goK r (stepK h k) (ar ++ [fld h k])
def areasB (s : ByteArray) (h : Hd) (n : Nat) : List ByteArray := s :: ((if n = 1 ∨ n = 3 then [h.file] else []) ++ (if n = 2 ∨ n = 3 then [h.name] else []))
theorem ovN_le {l : List Opt} {n : Nat} (h : ovN l = some n) : n ≤ 3 := by
  rcases ov_cases l with ⟨e, _⟩ | ⟨_, ⟨_, e⟩ | ⟨_, _, e⟩ | ⟨_, _, _, e⟩ | ⟨_, _, _, e⟩⟩
  all_goals (rw [e] at h; first | cases h | skip)
  all_goals omega
theorem goK_end {n : Nat} (hn : n ≤ 3) (h : Hd) (s : ByteArray) : goK (ovK n) h [s] = (headN h n, areasB s h n) := by
  rcases n with _ | _ | _ | _ | n
  · rfl
  · rfl
  · rfl
  · rfl
  · omega
theorem ovK_mem {n k : Nat} (h : k ∈ ovK n) : k = 12 ∨ k = 13 := by
  unfold ovK at h
  rcases List.mem_append.1 h with h | h
  · split at h
    · simp at h; exact Or.inr h
    · cases h
  · split at h
    · simp at h; exact Or.inl h
    · cases h
theorem ovK_len (n : Nat) : (ovK n).length ≤ 2 := by
  unfold ovK
  rw [List.length_append]
  split <;> split <;> simp
theorem BoxM.fld {b : Nat} {h : Hd} {v : Value} {W : World} (H : BoxM b h v W) {k : Nat} (hk : k = 12 ∨ k = 13) : W.cell? ⟨b, k, none⟩ = some (.string (fld h k)) ∧ W.frozen? ⟨b, k, none⟩ = false := by
  refine ⟨?_, free_at H k⟩
  rcases hk with rfl | rfl
  · exact cell_at H 12
  · exact cell_at H 13
theorem BoxM.putK {b : Nat} {h : Hd} {v : Value} {W : World} (H : BoxM b h v W) {k : Nat} (hk : k = 12 ∨ k = 13) : BoxM b (stepK h k) v (W.setCell ⟨b, k, none⟩ (.string (nulK k))) := by
  have := set_block H k (.string (nulK k))
  unfold BoxM
  rw [this]
  rcases hk with rfl | rfl
  · rfl
  · rfl
/-- File and Name ar a message has them -/
def sizH (h : Hd) : Prop := h.file.size = 128 ∧ h.name.size = 64
theorem sizH.next {h : Hd} (H : sizH h) (k : Nat) : sizH (stepK h k) := by
  unfold stepK
  split
  · exact ⟨nul_size 128, H.2⟩
  · exact ⟨H.1, nul_size 64⟩
def szK (k : Nat) : Nat := if k = 13 then 128 else 64
theorem sizH.fld {h : Hd} (H : sizH h) (k : Nat) : (fld h k).size = szK k := by
  unfold Go.Proofs.Ytmoklodaeicpgaa.fld szK
  split
  · exact H.1
  · exact H.2
theorem nul_szK (k : Nat) : nul (szK k) = nulK k := by unfold szK nulK; split <;> rfl
theorem szK_le (k : Nat) : szK k ≤ 128 := by unfold szK; split <;> omega
/-- the memory of the loop over the fields that are areas -/
def TkI (b : Nat) (w : World) (ks : List Nat) (vk : Value) (h : Hd) (va : Value) (ar : List ByteArray) (W : World) : Prop := Below b w W ∧ BoxM b h (.slice none 0 0) W ∧ LstP b vk ks W ∧ OwnS W w.heap.size va ar ∧ w.heap.size ≤ W.heap.size
theorem TkI.step {b : Nat} {w : World} {ks : List Nat} {vk : Value} {h : Hd} {va : Value} {ar : List ByteArray} {W W2 : World} (H : TkI b w ks vk h va ar W) (hb : Below W.heap.size W W2) : TkI b w ks vk h va ar W2 :=
  ⟨H.1.trans (hb.mono (Nat.le_of_lt (lt_of_block H.2.1))), H.2.1.step hb, H.2.2.1.step hb, H.2.2.2.1.step hb, Nat.le_trans H.2.2.2.2 hb.size⟩
theorem lstP_keep {b : Nat} {vk : Value} {ks : List Nat} {W W2 : World} (h : LstP b vk ks W) (hk : ∀ (g : Nat) (cs : Array Value), W.heap[g]? = some (Obj.cells cs 79 (0, 0)) → W2.heap[g]? = some (Obj.cells cs 79 (0, 0))) : LstP b vk ks W2 := by
  rcases h with h | ⟨g, h1, h2⟩
  · exact Or.inl h
  · exact Or.inr ⟨g, h1, hk g _ h2⟩
theorem ne_box {b g : Nat} {h : Hd} {v : Value} {W : World} {cs : Array Value} {t : TypeId} (H : BoxM b h v W) (hg : W.heap[g]? = some (.cells cs t (0, 0))) (ht : t ≠ 26) : g ≠ b := by
  rintro rfl
  rw [H] at hg
  injection hg with hg
  injection hg with _ hg _
  exact ht hg.symm
theorem OwnS.other {W : World} {base b k : Nat} {h : Hd} {u : Value} {v x : Value} {l : List ByteArray} (H : OwnS W base v l) (B : BoxM b h u W) : OwnS (W.setCell ⟨b, k, none⟩ x) base v l := by
  refine ⟨H.1, ?_⟩
  rcases H.2 with hn | ⟨g, cap, cur, h1, h2, h3, h4⟩
  · exact Or.inl hn
  · exact Or.inr ⟨g, cap, cur, h1, h2, (set_other (ne_box B h3 (by decide))).trans h3, h4⟩
theorem TkI.put {b : Nat} {w : World} {ks : List Nat} {vk : Value} {h : Hd} {va : Value} {ar : List ByteArray} {W : World} (H : TkI b w ks vk h va ar W) {k : Nat} (hk : k = 12 ∨ k = 13) : TkI b w ks vk (stepK h k) va ar (W.setCell ⟨b, k, none⟩ (.string (nulK k))) := by
  obtain ⟨h1, h2, h3, h4, h5⟩ := H
  refine ⟨h1.setCell (Nat.le_refl _) _, h2.putK hk, lstP_keep h3 (fun g cs hg => (set_other (ne_box h2 hg (by decide))).trans hg), h4.other h2, ?_⟩
  simpa [World.setCell] using h5
theorem TkI.more {b : Nat} {w : World} {ks : List Nat} {vk : Value} {h : Hd} {va : Value} {ar : List ByteArray} {W W2 : World} (H : TkI b w ks vk h va ar W) (hbw : b ≤ w.heap.size) {v2 : Value} {as2 : List ByteArray} (q1 : OwnS W2 w.heap.size v2 as2) (q2 : W.grownBy W2 va.ownBlock) (q3 : Below w.heap.size W W2) : TkI b w ks vk h v2 as2 W2 :=
  ⟨H.1.trans (q3.mono hbw), grown_keep H.2.2.2.1 q2 H.2.1 (by decide), lstP_keep H.2.2.1 (fun g cs hg => grown_keep H.2.2.2.1 q2 hg (by decide)), q1, Nat.le_trans H.2.2.2.2 q3.size⟩
/-- what takeAreas gives -/
def TakeP (b : Nat) (h : Hd) (s : ByteArray) (w : World) (e : Ending) (w2 : World) : Prop := Below b w w2 ∧
  ((parseE [lb s] ≠ 0 ∧ e = .returned (.tuple #[.slice none 0 0, .int .i64 (parseE [lb s] : Nat)])) ∨
   (parseE [lb s] = 0 ∧ ovN (parseO [lb s]) = none ∧ e = .returned (.tuple #[.slice none 0 0, .int .i64 130])) ∨
   (parseE [lb s] = 0 ∧ ∃ n v, ovN (parseO [lb s]) = some n ∧ e = .returned (.tuple #[v, .int .i64 0]) ∧ OwnS w2 w.heap.size v (areasB s h n) ∧ BoxM b (headN h n) (.slice none 0 0) w2))
theorem parseO_len (ar : List (List UInt8)) : (parseO ar).length ≤ 128 := by
  unfold parseO
  split
  · unfold optsOf; rw [List.length_map]; exact (ginv_parse ar [] ginv_nil).1
  · simp
set_option maxRecDepth 100000 in
set_option maxHeartbeats 4000000 in
theorem take_areas (b : Nat) (h : Hd) (hh : sizH h) (s : ByteArray) (hs : s.size ≤ 1152921504606846976) (w : World) (hB : BoxM b h (.slice none 0 0) w) :
    Calls Try.prog 32 #[.pointer (some ⟨b, 0, none⟩), .string s] w (TakeP b h s w) := by
  have hbw : b < w.heap.size := lt_of_block hB
  have O0 := ownS_one w s
  have PS := hide (show Calls Try.prog 19 #[.slice (some ⟨w.heap.size, 0, none⟩) 1 1] (w.alloc (.cells #[.string s] 9)) (fun e w2 => ∃ v, e = .returned (.tuple #[v, .int .i64 (parseE [lb s] : Nat)]) ∧ Below (w.alloc (.cells #[.string s] 9)).heap.size (w.alloc (.cells #[.string s] 9)) w2 ∧ OwnO w2 (w.alloc (.cells #[.string s] 9)).heap.size v (parseO [lb s])) from parse_any (ar := [s]) (by simp) (fun x hx => by rw [List.mem_singleton.1 hx]; exact hs) _ O0.lst)
  have B0 := hide (hB.step (below_alloc w (.cells #[.string s] 9)))
  have D0 := hide (below_alloc w (.cells #[.string s] 9))
  have OV := hide (fun v W (hv : LstO v (parseO [lb s]) W) => over_any b (v := v) (l := parseO [lb s]) (by have := parseO_len [lb s]; omega) W hv)
  clear hB O0
  go_enter Try.func32, Try.ntmps32
  go_wp2_with fail
  refine PS.out.mono ?_
  rintro e w1 ⟨v1, rfl, hb1, ho1⟩
  have D1 := hide (D0.out.trans (hb1.mono D0.out.size))
  have B1 := hide (B0.out.step hb1)
  have L1 := hide (ownO_lst ho1)
  clear hb1 ho1 D0 B0 PS
  by_cases he : parseE [lb s] = 0
  · have HE := hide he
    have Q : ((parseE [lb s] : Nat) : Int) = 0 := by omega
    clear he
    go_wp2_with fail
    refine (OV.out _ _ L1.out).mono ?_
    rintro e w2 ⟨hb2, hov⟩
    have D2 := hide (D1.out.trans (hb2.mono D1.out.size))
    have B2 := hide (B1.out.step hb2)
    clear hb2 D1 B1 L1 OV
    rcases hov with ⟨hn, rfl⟩ | ⟨n, vk, hn, rfl, hlp⟩
    · have HN := hide hn
      clear hn
      go_wp2
      go_ret2
      exact ⟨D2.out.mono (Nat.le_of_lt hbw), Or.inr (Or.inl ⟨HE.out, HN.out, rfl⟩)⟩
    · obtain ⟨pk, ck, rfl⟩ := lstP_len hlp
      have KM := hide (fun k (h : k ∈ ovK n) => ovK_mem h)
      have KL := ovK_len n
      have GE := hide (goK_end (ovN_le hn) h s)
      have HN := hide hn
      have O2 := ownS_one w2 s
      have D3 := hide (below_alloc w2 (.cells #[.string s] 9))
      have T0 := hide (show TkI b w (ovK n) (.slice pk (ovK n).length ck) h (.slice (some ⟨w2.heap.size, 0, none⟩) 1 1) [s] (w2.alloc (.cells #[.string s] 9)) from
        ⟨(D2.out.mono (Nat.le_of_lt hbw)).trans (D3.out.mono (Nat.le_of_lt (lt_of_block B2.out))), B2.out.step D3.out, hlp.step D3.out, O2.base D2.out.size, Nat.le_trans D2.out.size D3.out.size⟩)
      clear hn hlp O2 D3 B2 D2
      generalize ovK n = ks at *
      go_wp2_with fail
      generalize w2.alloc (.cells #[.string s] 9) = W3 at *
      generalize hR : (headN h n, areasB s h n) = R at *
      have HI := hide (show ∃ h2 ar, sizH h2 ∧ goK (ks.drop 0) h2 ar = R ∧ ar.length ≤ 1 + 0 ∧ TkI b w ks (.slice pk ks.length ck) h2 (.slice (some ⟨w2.heap.size, 0, none⟩) 1 1) ar W3 from ⟨h, [s], hh, GE.out, by simp, T0.out⟩)
      clear T0 GE
      go_loopw [9, 34] (fun va vi wr => ∃ k : Nat, k ≤ ks.length ∧ vi = .int .i64 (k : Nat) ∧ Hid (∃ h2 ar, sizH h2 ∧ goK (ks.drop k) h2 ar = R ∧ ar.length ≤ 1 + k ∧ TkI b w ks (.slice pk ks.length ck) h2 va ar wr)) (fun _ vi _ => ks.length - (intOf vi).toNat)
      case atStart => exact ⟨0, Nat.zero_le _, rfl, HI⟩
      case round =>
        obtain ⟨j, hj, rfl, HH⟩ := hrel
        clear HI
        obtain ⟨h2, ar, z1, z2, z3, z4⟩ := HH.out
        clear HH
        by_cases hlt : j < ks.length
        · obtain ⟨k, hk⟩ : ∃ k, ks[j]? = some k := ⟨_, List.getElem?_eq_getElem hlt⟩
          have hk2 := KM.out k (List.mem_of_getElem? hk)
          obtain ⟨g, rfl, cg⟩ := lstP_at z4.2.2.1 hk
          have cf := (z4.2.1.fld hk2).1
          have H4 := hide (z4.step (below_alloc wr (.cells #[.string (fld h2 k)] 9)))
          have NW := hide (sv_new wr [fld h2 k] #[.string (fld h2 k)] 9 rfl)
          have GO := hide (show goK (ks.drop (j + 1)) (stepK h2 k) (ar ++ [fld h2 k]) = R by
            rw [List.drop_eq_getElem_cons hlt, show ks[j] = k from (List.getElem?_eq_some_iff.1 hk).2] at z2
            exact z2)
          have SZ := hide z1
          have LN := hide z3
          clear z1 z2 z3 z4 hk
          have ZA := hide (fun W => zeros_any (szK k) (by have := szK_le k; omega) W)
          rw [nul_szK] at ZA
          have ZF : (fld h2 k).size = szK k := SZ.out.fld k
          go_wp2_with (at_builtin; refine wpList_append_S rfl (.tmp 38) (.tmp 42) rfl w.heap.size _ ar rfl H4.out.2.2.2.1 wr.heap.size 1 (fld h2 k) [] rfl NW.out (by have := LN.out; simp; omega) H4.out.2.2.2.2 ?_; intro v6 w6 q1 q2 q3; have H6 := hide (H4.out.more (Nat.le_of_lt hbw) q1 q2 q3); have cf6 := (H6.out.2.1.fld hk2).1; clear q1 q2 q3 H4 NW cf cg)
          refine (ZA.out _).mono ?_
          rintro e w7 ⟨rfl, hb7⟩
          have H7 := hide (H6.out.step hb7)
          have cf7 := (H7.out.2.1.fld hk2).1
          have ff7 := (H7.out.2.1.fld hk2).2
          have H8 := hide (H7.out.put hk2)
          have S8 := hide (SZ.out.next k)
          clear H6 H7 cf6 hb7 SZ
          go_wp2
          go_roundw
          case rel => exact ⟨j + 1, hlt, by go_num, hide ⟨_, _, S8.out, GO.out, by have := LN.out; simp; omega, H8.out⟩⟩
          case measure => simp [intOf]; omega
        · have F := hide (show (h2, ar) = R by
            rw [List.drop_of_length_le (by omega)] at z2
            exact z2)
          have Z4 := hide z4
          clear z1 z2 z3 z4
          go_wp2
          go_ret2
          obtain ⟨e1, e2⟩ := Prod.mk.inj (F.out.trans hR.symm)
          subst e1 e2
          exact ⟨Z4.out.1, Or.inr (Or.inr ⟨HE.out, n, _, HN.out, rfl, Z4.out.2.2.2.1, Z4.out.2.1⟩)⟩
  · have HE := hide he
    have Q : ¬ ((parseE [lb s] : Nat) : Int) = 0 := by omega
    clear he L1 OV
    go_wp2
    go_ret2
    exact ⟨D1.out.mono (Nat.le_of_lt hbw), Or.inl ⟨HE.out, rfl⟩⟩
end Go.Proofs.Ytmoklodaeicpgaa
