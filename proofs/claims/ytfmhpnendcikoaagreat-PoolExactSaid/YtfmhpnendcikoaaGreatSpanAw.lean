/-
  The contract of the document's own with: an address is put into a rising row of the call's own. Conditions: the words are words of 64 bits; at most 1000000 addresses.
-/
import Derived.Test.YtfmhpnendcikoaaGreatSpanAm
import Derived.Test.YtfmhpnendcikoaaGreatPoA
import Derived.Test.YtfmhpnendcikoaaGreatSpanFn
import Derived.Test.YtfmhpnendcikoaaGreatSpanAp
namespace Go.Proofs.YtfmhpnendcikoaaGreat
open Go.RowKit Go.Joins

/-- where the address goes -/
theorem with_at : ∀ {l : List Nat} {a k : Nat}, k ≤ l.length → (∀ j x, j < k → l[j]? = some x → x < a) → (∀ x, l[k]? = some x → ¬ x < a) →
    withL l a = if l[k]? = some a then l else l.take k ++ a :: l.drop k
  | [], a, k, hk, _, _ => by
    have : k = 0 := by simpa using hk
    subst this
    simp [withL]
  | x :: r, a, 0, _, _, h => by
    have h1 := h x rfl
    unfold withL
    rw [if_neg h1]
    by_cases e : x = a
    · subst e; simp
    · rw [if_neg e, if_neg (by simpa using e)]; rfl
  | x :: r, a, k + 1, hk, h1, h2 => by
    have hx := h1 0 x (by omega) rfl
    unfold withL
    rw [if_pos hx, with_at (k := k) (by simpa using hk) (fun j y hj hy => h1 (j + 1) y (by omega) (by simpa using hy)) (fun y hy => h2 y (by simpa using hy))]
    simp only [List.getElem?_cons_succ, List.take_succ_cons, List.drop_succ_cons, List.cons_append]
    split <;> rfl
theorem shift_step {l : List Nat} {i y z : Nat} (h : l[i]? = some z) : (l.take (i + 1) ++ y :: l.drop (i + 1)).set (i + 1) z = l.take i ++ z :: l.drop i := by
  have hl : i < l.length := (List.getElem?_eq_some_iff.1 h).1
  have e : l[i] = z := (List.getElem?_eq_some_iff.1 h).2
  have t : l.take (i + 1) = l.take i ++ [z] := by rw [List.take_add_one, h]; rfl
  rw [List.set_append_right _ _ (by rw [List.length_take]; omega), List.length_take, show i + 1 - min (i + 1) l.length = 0 by omega, List.set_cons_zero, t, List.append_assoc, List.drop_eq_getElem_cons hl, e]
  rfl
theorem put_last {l : List Nat} {i y z : Nat} (h : i ≤ l.length) : (l.take i ++ y :: l.drop i).set i z = l.take i ++ z :: l.drop i := by
  rw [List.set_append_right _ _ (by rw [List.length_take]; omega), List.length_take, show i - min i l.length = 0 by omega, List.set_cons_zero]
theorem ins_len {l : List Nat} {i y : Nat} (h : i ≤ l.length) : (l.take i ++ y :: l.drop i).length = l.length + 1 := by simp; omega
theorem ins_at {l : List Nat} {i y z : Nat} (h : l[i]? = some z) : (l.take (i + 1) ++ y :: l.drop (i + 1))[i]? = some z := by
  have hl : i < l.length := (List.getElem?_eq_some_iff.1 h).1
  rw [List.getElem?_append_left (by rw [List.length_take]; omega), List.getElem?_take, if_pos (by omega)]
  exact h
set_option maxRecDepth 100000 in
set_option maxHeartbeats 1000000 in
theorem rwith_any {v : Value} {l : List Nat} {a base : Nat} (fl : ∀ b ∈ l, Fits b) (fa : Fits a) (hl : l.length ≤ 1000000) (w : World) (hown : OwnA w base v l) (hbase : base ≤ w.heap.size) :
    Calls Tryz.prog 95 #[v, A a] w (MakesA base (withL l a) w) := by
  obtain ⟨i0, hi0, hz0, hz1, hz2⟩ := info_parts infoA
  have HO := hide hown
  obtain ⟨p, c, rfl, c1, c2⟩ := lenA hown
  have H0 : HG2 w w.heap.size a (w.alloc (.cells #[.int .u64 (hi a : Nat), .int .u64 (lo a : Nat)] 31)) := ⟨below_alloc _ _, two_new _ _ _, Nat.le_refl _⟩
  clear hown
  go_enter Tryz.func95, Tryz.ntmps95
  go_wp2_with fail
  go_loopw [5] (fun i wr => ∃ k : Nat, k ≤ l.length ∧ i = .int .i64 (k : Nat) ∧ HG2 w w.heap.size a wr ∧ Hid (∀ j x, j < k → l[j]? = some x → x < a)) (fun i _ => l.length - (intOf i).toNat)
  case atStart => exact ⟨0, Nat.zero_le _, rfl, H0, hide (fun j x h => by omega)⟩
  case round =>
    obtain ⟨k, hk, rfl, HH, G⟩ := hrel
    clear H0
    by_cases hlt : k < l.length
    · obtain ⟨x, hx⟩ : ∃ x, l[k]? = some x := ⟨_, List.getElem?_eq_getElem hlt⟩
      have fx := fl x (List.mem_of_getElem? hx)
      obtain ⟨g, cap, hgv, hbg, hgl⟩ := HO.out.form (by omega)
      cases hgv
      have RX := hide (fun W (H : Below w.heap.size w W) => (show W.cell? ⟨g, k * 2, none⟩ = some (.int .u64 (hi x : Nat)) ∧ W.cell? ⟨g, k * 2 + 1, none⟩ = some (.int .u64 (lo x : Nat)) from ⟨keep_cell H ((HO.out.cellAt (k * 2) (by omega)).trans (cellsA_at hx).1), keep_cell H ((HO.out.cellAt (k * 2 + 1) (by omega)).trans (cellsA_at hx).2)⟩))
      have CM := hide (fun W => rcmp_any fx fa W)
      have KL : (k : Int) < (l.length : Int) := by omega
      by_cases h : x < a
      · have C0 : cmpS x a < 0 := by rw [cmpS_lt h]; omega
        have GN := hide (show ∀ j y, j < k + 1 → l[j]? = some y → y < a from fun j y hj hy => by
          rcases Nat.lt_or_ge j k with h' | h'
          · exact G.out j y h' hy
          · have : j = k := by omega
            subst this
            rw [hx] at hy
            rw [← Option.some.inj hy]; exact h)
        clear hx h
        generalize cmpS x a = cv at *
        go_wp2_with fail
        refine wp_region_quiet (C := HG2 w w.heap.size a) (by kernel_rfl) (by kernel_rfl) HH.drew (wpQuiet_step (fun K0 hK0 => ?_))
        go_simp
        first | (with_reducible refine hK0 _ (wpQuiet_step (fun K1 hK1 => ?_))) | (with_reducible refine ⟨_, fun _ _ => rfl, hK0 _ (wpQuiet_step (fun K1 hK1 => ?_))⟩) | (rw [if_neg (by intro e; cases e)]; with_reducible refine hK0 _ (wpQuiet_step (fun K1 hK1 => ?_)))
        clear hK0 K0
        go_simp
        first | (with_reducible refine hK1 _ (wpQuiet_step (fun K0 hK0 => ?_))) | (with_reducible refine ⟨_, fun _ _ => rfl, hK1 _ (wpQuiet_step (fun K0 hK0 => ?_))⟩) | (rw [if_neg (by intro e; cases e)]; with_reducible refine hK1 _ (wpQuiet_step (fun K0 hK0 => ?_)))
        clear hK1 K1
        go_simp
        first | (with_reducible refine hK0 _ (wpQuiet_step (fun K1 hK1 => ?_))) | (with_reducible refine ⟨_, fun _ _ => rfl, hK0 _ (wpQuiet_step (fun K1 hK1 => ?_))⟩) | (rw [if_neg (by intro e; cases e)]; with_reducible refine hK0 _ (wpQuiet_step (fun K1 hK1 => ?_)))
        clear hK0 K0
        go_simp
        first | (with_reducible refine hK1 _ (wpQuiet_step (fun K0 hK0 => ?_))) | (with_reducible refine ⟨_, fun _ _ => rfl, hK1 _ (wpQuiet_step (fun K0 hK0 => ?_))⟩) | (rw [if_neg (by intro e; cases e)]; with_reducible refine hK1 _ (wpQuiet_step (fun K0 hK0 => ?_)))
        clear hK1 K1
        go_simp
        first | (with_reducible refine hK0 _ (wpQuiet_step (fun K1 hK1 => ?_))) | (with_reducible refine ⟨_, fun _ _ => rfl, hK0 _ (wpQuiet_step (fun K1 hK1 => ?_))⟩) | (rw [if_neg (by intro e; cases e)]; with_reducible refine hK0 _ (wpQuiet_step (fun K1 hK1 => ?_)))
        clear hK0 K0
        go_simp
        first | (with_reducible refine hK1 _ (wpQuiet_step (fun K0 hK0 => ?_))) | (with_reducible refine ⟨_, fun _ _ => rfl, hK1 _ (wpQuiet_step (fun K0 hK0 => ?_))⟩) | (rw [if_neg (by intro e; cases e)]; with_reducible refine hK1 _ (wpQuiet_step (fun K0 hK0 => ?_)))
        clear hK1 K1
        go_simp
        first | (with_reducible refine hK0 _ (wpQuiet_step (fun K1 hK1 => ?_))) | (with_reducible refine ⟨_, fun _ _ => rfl, hK0 _ (wpQuiet_step (fun K1 hK1 => ?_))⟩) | (rw [if_neg (by intro e; cases e)]; with_reducible refine hK0 _ (wpQuiet_step (fun K1 hK1 => ?_)))
        clear hK0 K0
        go_simp
        first | (with_reducible refine hK1 _ (wpQuiet_step (fun K0 hK0 => ?_))) | (with_reducible refine ⟨_, fun _ _ => rfl, hK1 _ (wpQuiet_step (fun K0 hK0 => ?_))⟩) | (rw [if_neg (by intro e; cases e)]; with_reducible refine hK1 _ (wpQuiet_step (fun K0 hK0 => ?_)))
        clear hK1 K1
        go_simp
        refine ⟨A x, fun W hW => ?_, hK0 _ (wpQuiet_step (fun K1 hK1 => ?_))⟩
        · (obtain ⟨u0, u1⟩ := RX.out W hW.1; simp [go_sem, u0, u1])
        clear hK0 K0
        go_simp
        refine ⟨A a, fun W hW => ?_, hK1 _ (wpQuiet_step (fun K0 hK0 => ?_))⟩
        · (obtain ⟨_, ⟨_, u0, u1, _⟩, _⟩ := hW; simp [go_sem, u0, u1])
        clear hK1 K1
        go_simp
        refine ⟨.int .i64 cv, fun W hW => ?_, hK0 _ (wpQuiet_step (fun K1 hK1 => ?_))⟩
        · exact (CM.out W).mono fun e w4 ⟨he, hb⟩ => ⟨he, HG2.step hW hb⟩
        clear hK0 K0
        go_simp
        first | (with_reducible refine hK1 _ (wpQuiet_step (fun K0 hK0 => ?_))) | (with_reducible refine ⟨_, fun _ _ => rfl, hK1 _ (wpQuiet_step (fun K0 hK0 => ?_))⟩) | (rw [if_neg (by intro e; cases e)]; with_reducible refine hK1 _ (wpQuiet_step (fun K0 hK0 => ?_)))
        clear hK1 K1
        go_simp
        first | (with_reducible refine hK0 _ (wpQuiet_nil ?_)) | (with_reducible refine ⟨_, fun _ _ => rfl, hK0 _ (wpQuiet_nil ?_)⟩) | (rw [if_neg (by intro e; cases e)]; with_reducible refine hK0 _ (wpQuiet_nil ?_))
        clear hK0 K0
        intro w3 H3
        go_wp2
        go_roundw
        case rel => exact ⟨k + 1, hlt, by go_num, H3, GN⟩
        case measure => simp [intOf]; omega
      · have C0 : ¬ cmpS x a < 0 := by
          unfold cmpS; rw [if_neg h]; split <;> omega
        have WA := hide (with_at hk G.out (fun y hy => by rw [hx] at hy; rw [← Option.some.inj hy]; exact h))
        clear h
        generalize cmpS x a = cv at *
        go_wp2_with fail
        refine wp_region_quiet (C := HG2 w w.heap.size a) (by kernel_rfl) (by kernel_rfl) HH.drew (wpQuiet_step (fun K0 hK0 => ?_))
        go_simp
        first | (with_reducible refine hK0 _ (wpQuiet_step (fun K1 hK1 => ?_))) | (with_reducible refine ⟨_, fun _ _ => rfl, hK0 _ (wpQuiet_step (fun K1 hK1 => ?_))⟩) | (rw [if_neg (by intro e; cases e)]; with_reducible refine hK0 _ (wpQuiet_step (fun K1 hK1 => ?_)))
        clear hK0 K0
        go_simp
        first | (with_reducible refine hK1 _ (wpQuiet_step (fun K0 hK0 => ?_))) | (with_reducible refine ⟨_, fun _ _ => rfl, hK1 _ (wpQuiet_step (fun K0 hK0 => ?_))⟩) | (rw [if_neg (by intro e; cases e)]; with_reducible refine hK1 _ (wpQuiet_step (fun K0 hK0 => ?_)))
        clear hK1 K1
        go_simp
        first | (with_reducible refine hK0 _ (wpQuiet_step (fun K1 hK1 => ?_))) | (with_reducible refine ⟨_, fun _ _ => rfl, hK0 _ (wpQuiet_step (fun K1 hK1 => ?_))⟩) | (rw [if_neg (by intro e; cases e)]; with_reducible refine hK0 _ (wpQuiet_step (fun K1 hK1 => ?_)))
        clear hK0 K0
        go_simp
        first | (with_reducible refine hK1 _ (wpQuiet_step (fun K0 hK0 => ?_))) | (with_reducible refine ⟨_, fun _ _ => rfl, hK1 _ (wpQuiet_step (fun K0 hK0 => ?_))⟩) | (rw [if_neg (by intro e; cases e)]; with_reducible refine hK1 _ (wpQuiet_step (fun K0 hK0 => ?_)))
        clear hK1 K1
        go_simp
        first | (with_reducible refine hK0 _ (wpQuiet_step (fun K1 hK1 => ?_))) | (with_reducible refine ⟨_, fun _ _ => rfl, hK0 _ (wpQuiet_step (fun K1 hK1 => ?_))⟩) | (rw [if_neg (by intro e; cases e)]; with_reducible refine hK0 _ (wpQuiet_step (fun K1 hK1 => ?_)))
        clear hK0 K0
        go_simp
        first | (with_reducible refine hK1 _ (wpQuiet_step (fun K0 hK0 => ?_))) | (with_reducible refine ⟨_, fun _ _ => rfl, hK1 _ (wpQuiet_step (fun K0 hK0 => ?_))⟩) | (rw [if_neg (by intro e; cases e)]; with_reducible refine hK1 _ (wpQuiet_step (fun K0 hK0 => ?_)))
        clear hK1 K1
        go_simp
        first | (with_reducible refine hK0 _ (wpQuiet_step (fun K1 hK1 => ?_))) | (with_reducible refine ⟨_, fun _ _ => rfl, hK0 _ (wpQuiet_step (fun K1 hK1 => ?_))⟩) | (rw [if_neg (by intro e; cases e)]; with_reducible refine hK0 _ (wpQuiet_step (fun K1 hK1 => ?_)))
        clear hK0 K0
        go_simp
        first | (with_reducible refine hK1 _ (wpQuiet_step (fun K0 hK0 => ?_))) | (with_reducible refine ⟨_, fun _ _ => rfl, hK1 _ (wpQuiet_step (fun K0 hK0 => ?_))⟩) | (rw [if_neg (by intro e; cases e)]; with_reducible refine hK1 _ (wpQuiet_step (fun K0 hK0 => ?_)))
        clear hK1 K1
        go_simp
        refine ⟨A x, fun W hW => ?_, hK0 _ (wpQuiet_step (fun K1 hK1 => ?_))⟩
        · (obtain ⟨u0, u1⟩ := RX.out W hW.1; simp [go_sem, u0, u1])
        clear hK0 K0
        go_simp
        refine ⟨A a, fun W hW => ?_, hK1 _ (wpQuiet_step (fun K0 hK0 => ?_))⟩
        · (obtain ⟨_, ⟨_, u0, u1, _⟩, _⟩ := hW; simp [go_sem, u0, u1])
        clear hK1 K1
        go_simp
        refine ⟨.int .i64 cv, fun W hW => ?_, hK0 _ (wpQuiet_step (fun K1 hK1 => ?_))⟩
        · exact (CM.out W).mono fun e w4 ⟨he, hb⟩ => ⟨he, HG2.step hW hb⟩
        clear hK0 K0
        go_simp
        first | (with_reducible refine hK1 _ (wpQuiet_step (fun K0 hK0 => ?_))) | (with_reducible refine ⟨_, fun _ _ => rfl, hK1 _ (wpQuiet_step (fun K0 hK0 => ?_))⟩) | (rw [if_neg (by intro e; cases e)]; with_reducible refine hK1 _ (wpQuiet_step (fun K0 hK0 => ?_)))
        clear hK1 K1
        go_simp
        first | (with_reducible refine hK0 _ (wpQuiet_nil ?_)) | (with_reducible refine ⟨_, fun _ _ => rfl, hK0 _ (wpQuiet_nil ?_)⟩) | (rw [if_neg (by intro e; cases e)]; with_reducible refine hK0 _ (wpQuiet_nil ?_))
        clear hK0 K0
        intro w3 H3
        -- GEN
        by_cases hxa : x = a
        · have WB := hide (show withL l a = l by rw [WA.out, if_pos (by rw [hx, hxa])])
          have XE : hi x = hi a ∧ lo x = lo a := by rw [hxa]; exact ⟨rfl, rfl⟩
          rw [hxa] at RX
          clear hx hxa XE
          go_wp2_with fail
          refine wp_region_quiet (C := HG2 w w.heap.size a) (by kernel_rfl) (by kernel_rfl) H3.drew (wpQuiet_step (fun K0 hK0 => ?_))
          go_simp
          first | (with_reducible refine hK0 _ (wpQuiet_step (fun K1 hK1 => ?_))) | (with_reducible refine ⟨_, fun _ _ => rfl, hK0 _ (wpQuiet_step (fun K1 hK1 => ?_))⟩) | (rw [if_neg (by intro e; cases e)]; with_reducible refine hK0 _ (wpQuiet_step (fun K1 hK1 => ?_)))
          clear hK0 K0
          go_simp
          first | (with_reducible refine hK1 _ (wpQuiet_step (fun K0 hK0 => ?_))) | (with_reducible refine ⟨_, fun _ _ => rfl, hK1 _ (wpQuiet_step (fun K0 hK0 => ?_))⟩) | (rw [if_neg (by intro e; cases e)]; with_reducible refine hK1 _ (wpQuiet_step (fun K0 hK0 => ?_)))
          clear hK1 K1
          go_simp
          first | (with_reducible refine hK0 _ (wpQuiet_step (fun K1 hK1 => ?_))) | (with_reducible refine ⟨_, fun _ _ => rfl, hK0 _ (wpQuiet_step (fun K1 hK1 => ?_))⟩) | (rw [if_neg (by intro e; cases e)]; with_reducible refine hK0 _ (wpQuiet_step (fun K1 hK1 => ?_)))
          clear hK0 K0
          go_simp
          first | (with_reducible refine hK1 _ (wpQuiet_step (fun K0 hK0 => ?_))) | (with_reducible refine ⟨_, fun _ _ => rfl, hK1 _ (wpQuiet_step (fun K0 hK0 => ?_))⟩) | (rw [if_neg (by intro e; cases e)]; with_reducible refine hK1 _ (wpQuiet_step (fun K0 hK0 => ?_)))
          clear hK1 K1
          go_simp
          first | (with_reducible refine hK0 _ (wpQuiet_step (fun K1 hK1 => ?_))) | (with_reducible refine ⟨_, fun _ _ => rfl, hK0 _ (wpQuiet_step (fun K1 hK1 => ?_))⟩) | (rw [if_neg (by intro e; cases e)]; with_reducible refine hK0 _ (wpQuiet_step (fun K1 hK1 => ?_)))
          clear hK0 K0
          go_simp
          first | (with_reducible refine hK1 _ (wpQuiet_step (fun K0 hK0 => ?_))) | (with_reducible refine ⟨_, fun _ _ => rfl, hK1 _ (wpQuiet_step (fun K0 hK0 => ?_))⟩) | (rw [if_neg (by intro e; cases e)]; with_reducible refine hK1 _ (wpQuiet_step (fun K0 hK0 => ?_)))
          clear hK1 K1
          go_simp
          first | (with_reducible refine hK0 _ (wpQuiet_step (fun K1 hK1 => ?_))) | (with_reducible refine ⟨_, fun _ _ => rfl, hK0 _ (wpQuiet_step (fun K1 hK1 => ?_))⟩) | (rw [if_neg (by intro e; cases e)]; with_reducible refine hK0 _ (wpQuiet_step (fun K1 hK1 => ?_)))
          clear hK0 K0
          go_simp
          first | (with_reducible refine hK1 _ (wpQuiet_step (fun K0 hK0 => ?_))) | (with_reducible refine ⟨_, fun _ _ => rfl, hK1 _ (wpQuiet_step (fun K0 hK0 => ?_))⟩) | (rw [if_neg (by intro e; cases e)]; with_reducible refine hK1 _ (wpQuiet_step (fun K0 hK0 => ?_)))
          clear hK1 K1
          go_simp
          refine ⟨A a, fun W hW => ?_, hK0 _ (wpQuiet_step (fun K1 hK1 => ?_))⟩
          · (obtain ⟨u0, u1⟩ := RX.out W hW.1; simp [go_sem, u0, u1])
          clear hK0 K0
          go_simp
          refine ⟨A a, fun W hW => ?_, hK1 _ (wpQuiet_step (fun K0 hK0 => ?_))⟩
          · (obtain ⟨_, ⟨_, u0, u1, _⟩, _⟩ := hW; simp [go_sem, u0, u1])
          clear hK1 K1
          go_simp
          first | (with_reducible refine hK0 _ (wpQuiet_step (fun K1 hK1 => ?_))) | (with_reducible refine ⟨_, fun _ _ => rfl, hK0 _ (wpQuiet_step (fun K1 hK1 => ?_))⟩) | (rw [if_neg (by intro e; cases e)]; with_reducible refine hK0 _ (wpQuiet_step (fun K1 hK1 => ?_)))
          clear hK0 K0
          go_simp
          first | (with_reducible refine hK1 _ (wpQuiet_nil ?_)) | (with_reducible refine ⟨_, fun _ _ => rfl, hK1 _ (wpQuiet_nil ?_)⟩) | (rw [if_neg (by intro e; cases e)]; with_reducible refine hK1 _ (wpQuiet_nil ?_))
          clear hK1 K1
          intro w5 H5
          go_wp2
          go_ret
          refine ⟨_, rfl, H5.1.mono hbase, ?_⟩
          rw [WB.out]
          exact own_keep HO.out H5.1
        · have WB := hide (show withL l a = l.take k ++ a :: l.drop k by rw [WA.out, if_neg (by rw [hx]; simpa using hxa)])
          have NE : (¬ hi x = hi a) ∨ (hi x = hi a ∧ ¬ lo x = lo a) := by by_cases e1 : hi x = hi a; exact Or.inr ⟨e1, fun e2 => hxa (words_eq e1 e2)⟩; exact Or.inl e1
          clear hx hxa WA
          have DN := hide NE
          clear NE
          go_wp2_with fail
          refine wp_region_quiet (C := HG2 w w.heap.size a) (by kernel_rfl) (by kernel_rfl) H3.drew (wpQuiet_step (fun K0 hK0 => ?_))
          go_simp
          first | (with_reducible refine hK0 _ (wpQuiet_step (fun K1 hK1 => ?_))) | (with_reducible refine ⟨_, fun _ _ => rfl, hK0 _ (wpQuiet_step (fun K1 hK1 => ?_))⟩) | (rw [if_neg (by intro e; cases e)]; with_reducible refine hK0 _ (wpQuiet_step (fun K1 hK1 => ?_)))
          clear hK0 K0
          go_simp
          first | (with_reducible refine hK1 _ (wpQuiet_step (fun K0 hK0 => ?_))) | (with_reducible refine ⟨_, fun _ _ => rfl, hK1 _ (wpQuiet_step (fun K0 hK0 => ?_))⟩) | (rw [if_neg (by intro e; cases e)]; with_reducible refine hK1 _ (wpQuiet_step (fun K0 hK0 => ?_)))
          clear hK1 K1
          go_simp
          first | (with_reducible refine hK0 _ (wpQuiet_step (fun K1 hK1 => ?_))) | (with_reducible refine ⟨_, fun _ _ => rfl, hK0 _ (wpQuiet_step (fun K1 hK1 => ?_))⟩) | (rw [if_neg (by intro e; cases e)]; with_reducible refine hK0 _ (wpQuiet_step (fun K1 hK1 => ?_)))
          clear hK0 K0
          go_simp
          first | (with_reducible refine hK1 _ (wpQuiet_step (fun K0 hK0 => ?_))) | (with_reducible refine ⟨_, fun _ _ => rfl, hK1 _ (wpQuiet_step (fun K0 hK0 => ?_))⟩) | (rw [if_neg (by intro e; cases e)]; with_reducible refine hK1 _ (wpQuiet_step (fun K0 hK0 => ?_)))
          clear hK1 K1
          go_simp
          first | (with_reducible refine hK0 _ (wpQuiet_step (fun K1 hK1 => ?_))) | (with_reducible refine ⟨_, fun _ _ => rfl, hK0 _ (wpQuiet_step (fun K1 hK1 => ?_))⟩) | (rw [if_neg (by intro e; cases e)]; with_reducible refine hK0 _ (wpQuiet_step (fun K1 hK1 => ?_)))
          clear hK0 K0
          go_simp
          first | (with_reducible refine hK1 _ (wpQuiet_step (fun K0 hK0 => ?_))) | (with_reducible refine ⟨_, fun _ _ => rfl, hK1 _ (wpQuiet_step (fun K0 hK0 => ?_))⟩) | (rw [if_neg (by intro e; cases e)]; with_reducible refine hK1 _ (wpQuiet_step (fun K0 hK0 => ?_)))
          clear hK1 K1
          go_simp
          first | (with_reducible refine hK0 _ (wpQuiet_step (fun K1 hK1 => ?_))) | (with_reducible refine ⟨_, fun _ _ => rfl, hK0 _ (wpQuiet_step (fun K1 hK1 => ?_))⟩) | (rw [if_neg (by intro e; cases e)]; with_reducible refine hK0 _ (wpQuiet_step (fun K1 hK1 => ?_)))
          clear hK0 K0
          go_simp
          first | (with_reducible refine hK1 _ (wpQuiet_step (fun K0 hK0 => ?_))) | (with_reducible refine ⟨_, fun _ _ => rfl, hK1 _ (wpQuiet_step (fun K0 hK0 => ?_))⟩) | (rw [if_neg (by intro e; cases e)]; with_reducible refine hK1 _ (wpQuiet_step (fun K0 hK0 => ?_)))
          clear hK1 K1
          go_simp
          refine ⟨A x, fun W hW => ?_, hK0 _ (wpQuiet_step (fun K1 hK1 => ?_))⟩
          · (obtain ⟨u0, u1⟩ := RX.out W hW.1; simp [go_sem, u0, u1])
          clear hK0 K0
          go_simp
          refine ⟨A a, fun W hW => ?_, hK1 _ (wpQuiet_step (fun K0 hK0 => ?_))⟩
          · (obtain ⟨_, ⟨_, u0, u1, _⟩, _⟩ := hW; simp [go_sem, u0, u1])
          clear hK1 K1
          go_simp
          refine ⟨.bool false, fun W hW => ?_, hK0 _ (wpQuiet_step (fun K1 hK1 => ?_))⟩
          · ((rcases DN.out with h1 | ⟨h1, h2⟩; (rw [if_neg (by omega)]; exact ⟨rfl, rfl⟩); (rw [if_pos (by omega), if_neg (by omega)]; exact ⟨rfl, rfl⟩)))
          clear hK0 K0
          go_simp
          first | (with_reducible refine hK1 _ (wpQuiet_nil ?_)) | (with_reducible refine ⟨_, fun _ _ => rfl, hK1 _ (wpQuiet_nil ?_)⟩) | (rw [if_neg (by intro e; cases e)]; with_reducible refine hK1 _ (wpQuiet_nil ?_))
          clear hK1 K1
          intro w5 H5
          clear H3
          have H3 := H5
          clear H5
          generalize w5 = w3 at *
          have NB : ∀ k, (Value.slice (some ⟨g, 0, none⟩) l.length c).ownBlock = some k → k < w.heap.size := fun k e => (HO.out.lt k e).2
          have H4 := H3.step (below_alloc w3 (.cells #[.int .u64 (hi a : Nat), .int .u64 (lo a : Nat)] 31))
          have HOA := own_keep HO.out H4.1
          have hs3 := H3.1.size
          have BB := H4.1.mono hbase
          have BZ := Nat.le_trans hbase H4.1.size
          obtain ⟨_, ⟨z0, z1, z2, _⟩, _⟩ := id H3
          go_wp2_with (at_builtin; go_loud (refine wpList_append_lies _ rfl (.tmp 35) (.tmp 37) 23 rfl base 31 i0 (.agg #[.int .u64 0, .int .u64 0]) 2 16 Tryz.underlying23 hi0 hz0 hz1 hz2 rfl (by decide) _ _ _ rfl HOA ⟨w3.heap.size, 0, none⟩ 1 1 (cellsA [a]) rfl rfl own_two (cellsA_one _) (by omega) (by unfold maxLen; omega) (by omega) BZ _ rfl ?_); go_loud (intro g4 cap4 w4 hown4 hgrow4 hat hlt4; have T4 := H4.2.1.grown hgrow4 (fun e => by have := NB _ e.symm; omega); have BB4 := BB.grown hgrow4 BZ (fun j hj => (HOA.lt j hj).1); have G4 : g4 ≠ w.heap.size := (by rcases hat with e | e; (have := NB _ e; omega); (rw [World.size_alloc] at e; omega)); have bg4 : base ≤ g4 := base_le hown4; rw [← cellsA_append] at hown4; clear z0 z1 z2 hat hgrow4 H3 H4 HOA BB BZ NB HH))
          have I0 : (l.length : Int) + 1 - 1 = (l.length : Int) := by omega
          go_wp2_with fail
          go_loopw [6] (fun i wr => ∃ (j y : Nat), k ≤ j ∧ j ≤ l.length ∧ i = .int .i64 (j : Nat) ∧ wr.ownsRow base 31 2 (.slice (some ⟨g4, 0, none⟩) (l.length + 1) cap4) (l.length + 1) (cellsA (l.take j ++ y :: l.drop j)) ∧ Two w.heap.size a wr ∧ Below base w wr) (fun i _ => (intOf i).toNat)
          case atStart => exact ⟨l.length, a, hk, Nat.le_refl _, (by first | rfl | (rw [I0])), by rw [List.take_length, List.drop_length]; exact hown4, T4, BB4⟩
          case round =>
            obtain ⟨j, y, hj1, hj2, rfl, hown5, T5, B5⟩ := hrel
            clear hown4 T4 BB4
            by_cases hgt : k < j
            · obtain ⟨i, hi⟩ : ∃ i, j = i + 1 := ⟨j - 1, by omega⟩
              subst hi
              obtain ⟨z, hz⟩ : ∃ z, l[i]? = some z := ⟨_, List.getElem?_eq_getElem (by omega)⟩
              have xl := hown5.1
              have e0 := (cellsA_at (ins_at (y := y) hz)).1
              have e1 := (cellsA_at (ins_at (y := y) hz)).2
              have r0 := (hown5.cellAt (i * 2) (by omega)).trans e0
              have r1 := (hown5.cellAt (i * 2 + 1) (by omega)).trans e1
              obtain ⟨u0, v0⟩ : ∃ u, (cellsA (l.take (i + 1) ++ y :: l.drop (i + 1)))[(i + 1) * 2]? = some u := ⟨_, List.getElem?_eq_getElem (by omega)⟩
              obtain ⟨u1, v1⟩ : ∃ u, (cellsA (l.take (i + 1) ++ y :: l.drop (i + 1)))[(i + 1) * 2 + 1]? = some u := ⟨_, List.getElem?_eq_getElem (by omega)⟩
              have s0 := (hown5.cellAt ((i + 1) * 2) (by omega)).trans v0
              have s1 := (hown5.cellAt ((i + 1) * 2 + 1) (by omega)).trans v1
              have f0 := hown5.frozenAt ((i + 1) * 2)
              have f1 := hown5.frozenAt ((i + 1) * 2 + 1)
              have SH := hide (shift_step (y := y) hz)
              have O6 := ((hown5.stored ((i + 1) * 2) (.int .u64 (hi z : Nat))).1.stored ((i + 1) * 2 + 1) (.int .u64 (lo z : Nat))).1
              rw [cellsA_set, SH.out] at O6
              have T6 := (T5.set (p := ⟨g4, (i + 1) * 2, none⟩) (fun e => G4 e.symm) (.int .u64 (hi z : Nat))).set (p := ⟨g4, (i + 1) * 2 + 1, none⟩) (fun e => G4 e.symm) (.int .u64 (lo z : Nat))
              have B6 := (B5.setCell (show base ≤ (⟨g4, (i + 1) * 2, none⟩ : Go.Addr).block from bg4) (.int .u64 (hi z : Nat))).setCell (show base ≤ (⟨g4, (i + 1) * 2 + 1, none⟩ : Go.Addr).block from bg4) (.int .u64 (lo z : Nat))
              have K1 : (k : Int) < (i : Int) + 1 := by omega
              have K2 : (i : Int) + 1 - 1 = (i : Int) := by omega
              have K3 : IntKind.i64.wrap ((i : Int) + 1 - 1) = (i : Int) := by rw [IntWalk.i64_in _ ⟨by omega, by omega⟩]; omega
              have K4 : (i : Int) < (l.length : Int) + 1 := by omega
              have K5 : (i : Int) + 1 < (l.length : Int) + 1 := by omega
              have K6 : (0 : Int) ≤ (i : Int) + 1 := by omega
              clear hz e0 e1 v0 v1 xl hown5 T5 B5 SH
              go_wp2
              go_roundw
              case rel => exact ⟨i, z, by omega, by omega, by go_num, O6, T6, B6⟩
              case measure => simp [intOf] <;> omega
            · have e : j = k := by omega
              subst e
              have K1 : ¬ (j : Int) < (j : Int) := by omega
              obtain ⟨_, z1, z2, _⟩ := id T5
              have xl := hown5.1
              obtain ⟨u0, v0⟩ : ∃ u, (cellsA (l.take j ++ y :: l.drop j))[j * 2]? = some u := ⟨_, List.getElem?_eq_getElem (by omega)⟩
              obtain ⟨u1, v1⟩ : ∃ u, (cellsA (l.take j ++ y :: l.drop j))[j * 2 + 1]? = some u := ⟨_, List.getElem?_eq_getElem (by omega)⟩
              have s0 := (hown5.cellAt (j * 2) (by omega)).trans v0
              have s1 := (hown5.cellAt (j * 2 + 1) (by omega)).trans v1
              have f0 := hown5.frozenAt (j * 2)
              have f1 := hown5.frozenAt (j * 2 + 1)
              have O6 := ((hown5.stored (j * 2) (.int .u64 (hi a : Nat))).1.stored (j * 2 + 1) (.int .u64 (lo a : Nat))).1
              rw [cellsA_set, put_last hj2] at O6
              have B6 := (B5.setCell (show base ≤ (⟨g4, j * 2, none⟩ : Go.Addr).block from bg4) (.int .u64 (hi a : Nat))).setCell (show base ≤ (⟨g4, j * 2 + 1, none⟩ : Go.Addr).block from bg4) (.int .u64 (lo a : Nat))
              have K4 : (j : Int) < (l.length : Int) + 1 := by omega
              have LN := hide (ins_len (y := a) hj2)
              clear v0 v1 xl hown5 T5 B5
              go_wp2
              go_ret
              refine ⟨_, rfl, B6, ?_⟩
              rw [WB.out]
              unfold OwnA
              rw [LN.out]
              exact O6
    · have WB := hide (show withL l a = l.take k ++ a :: l.drop k by rw [with_at hk G.out (fun y hy => by rw [List.getElem?_eq_none (by omega)] at hy; cases hy), if_neg (by rw [List.getElem?_eq_none (by omega)]; simp)])
      have KL : ¬ (k : Int) < (l.length : Int) := by omega
      go_wp2_with fail
      refine wp_region_quiet (C := HG2 w w.heap.size a) (by kernel_rfl) (by kernel_rfl) HH.drew (wpQuiet_step (fun K0 hK0 => ?_))
      go_simp
      first | (with_reducible refine hK0 _ (wpQuiet_step (fun K1 hK1 => ?_))) | (with_reducible refine ⟨_, fun _ _ => rfl, hK0 _ (wpQuiet_step (fun K1 hK1 => ?_))⟩) | (rw [if_neg (by intro e; cases e)]; with_reducible refine hK0 _ (wpQuiet_step (fun K1 hK1 => ?_)))
      clear hK0 K0
      go_simp
      first | (with_reducible refine hK1 _ (wpQuiet_step (fun K0 hK0 => ?_))) | (with_reducible refine ⟨_, fun _ _ => rfl, hK1 _ (wpQuiet_step (fun K0 hK0 => ?_))⟩) | (rw [if_neg (by intro e; cases e)]; with_reducible refine hK1 _ (wpQuiet_step (fun K0 hK0 => ?_)))
      clear hK1 K1
      go_simp
      first | (with_reducible refine hK0 _ (wpQuiet_step (fun K1 hK1 => ?_))) | (with_reducible refine ⟨_, fun _ _ => rfl, hK0 _ (wpQuiet_step (fun K1 hK1 => ?_))⟩) | (rw [if_neg (by intro e; cases e)]; with_reducible refine hK0 _ (wpQuiet_step (fun K1 hK1 => ?_)))
      clear hK0 K0
      go_simp
      first | (with_reducible refine hK1 _ (wpQuiet_step (fun K0 hK0 => ?_))) | (with_reducible refine ⟨_, fun _ _ => rfl, hK1 _ (wpQuiet_step (fun K0 hK0 => ?_))⟩) | (rw [if_neg (by intro e; cases e)]; with_reducible refine hK1 _ (wpQuiet_step (fun K0 hK0 => ?_)))
      clear hK1 K1
      go_simp
      first | (with_reducible refine hK0 _ (wpQuiet_step (fun K1 hK1 => ?_))) | (with_reducible refine ⟨_, fun _ _ => rfl, hK0 _ (wpQuiet_step (fun K1 hK1 => ?_))⟩) | (rw [if_neg (by intro e; cases e)]; with_reducible refine hK0 _ (wpQuiet_step (fun K1 hK1 => ?_)))
      clear hK0 K0
      go_simp
      first | (with_reducible refine hK1 _ (wpQuiet_step (fun K0 hK0 => ?_))) | (with_reducible refine ⟨_, fun _ _ => rfl, hK1 _ (wpQuiet_step (fun K0 hK0 => ?_))⟩) | (rw [if_neg (by intro e; cases e)]; with_reducible refine hK1 _ (wpQuiet_step (fun K0 hK0 => ?_)))
      clear hK1 K1
      go_simp
      first | (with_reducible refine hK0 _ (wpQuiet_step (fun K1 hK1 => ?_))) | (with_reducible refine ⟨_, fun _ _ => rfl, hK0 _ (wpQuiet_step (fun K1 hK1 => ?_))⟩) | (rw [if_neg (by intro e; cases e)]; with_reducible refine hK0 _ (wpQuiet_step (fun K1 hK1 => ?_)))
      clear hK0 K0
      go_simp
      first | (with_reducible refine hK1 _ (wpQuiet_step (fun K0 hK0 => ?_))) | (with_reducible refine ⟨_, fun _ _ => rfl, hK1 _ (wpQuiet_step (fun K0 hK0 => ?_))⟩) | (rw [if_neg (by intro e; cases e)]; with_reducible refine hK1 _ (wpQuiet_step (fun K0 hK0 => ?_)))
      clear hK1 K1
      go_simp
      first | (with_reducible refine hK0 _ (wpQuiet_step (fun K1 hK1 => ?_))) | (with_reducible refine ⟨_, fun _ _ => rfl, hK0 _ (wpQuiet_step (fun K1 hK1 => ?_))⟩) | (rw [if_neg (by intro e; cases e)]; with_reducible refine hK0 _ (wpQuiet_step (fun K1 hK1 => ?_)))
      clear hK0 K0
      go_simp
      first | (with_reducible refine hK1 _ (wpQuiet_step (fun K0 hK0 => ?_))) | (with_reducible refine ⟨_, fun _ _ => rfl, hK1 _ (wpQuiet_step (fun K0 hK0 => ?_))⟩) | (rw [if_neg (by intro e; cases e)]; with_reducible refine hK1 _ (wpQuiet_step (fun K0 hK0 => ?_)))
      clear hK1 K1
      go_simp
      first | (with_reducible refine hK0 _ (wpQuiet_step (fun K1 hK1 => ?_))) | (with_reducible refine ⟨_, fun _ _ => rfl, hK0 _ (wpQuiet_step (fun K1 hK1 => ?_))⟩) | (rw [if_neg (by intro e; cases e)]; with_reducible refine hK0 _ (wpQuiet_step (fun K1 hK1 => ?_)))
      clear hK0 K0
      go_simp
      first | (with_reducible refine hK1 _ (wpQuiet_step (fun K0 hK0 => ?_))) | (with_reducible refine ⟨_, fun _ _ => rfl, hK1 _ (wpQuiet_step (fun K0 hK0 => ?_))⟩) | (rw [if_neg (by intro e; cases e)]; with_reducible refine hK1 _ (wpQuiet_step (fun K0 hK0 => ?_)))
      clear hK1 K1
      go_simp
      first | (with_reducible refine hK0 _ (wpQuiet_nil ?_)) | (with_reducible refine ⟨_, fun _ _ => rfl, hK0 _ (wpQuiet_nil ?_)⟩) | (rw [if_neg (by intro e; cases e)]; with_reducible refine hK0 _ (wpQuiet_nil ?_))
      clear hK0 K0
      intro w2 H2
      go_wp2_with fail
      refine wp_region_quiet (C := HG2 w w.heap.size a) (by kernel_rfl) (by kernel_rfl) H2.drew (wpQuiet_step (fun K0 hK0 => ?_))
      go_simp
      first | (with_reducible refine hK0 _ (wpQuiet_step (fun K1 hK1 => ?_))) | (with_reducible refine ⟨_, fun _ _ => rfl, hK0 _ (wpQuiet_step (fun K1 hK1 => ?_))⟩) | (rw [if_neg (by intro e; cases e)]; with_reducible refine hK0 _ (wpQuiet_step (fun K1 hK1 => ?_)))
      clear hK0 K0
      go_simp
      first | (with_reducible refine hK1 _ (wpQuiet_step (fun K0 hK0 => ?_))) | (with_reducible refine ⟨_, fun _ _ => rfl, hK1 _ (wpQuiet_step (fun K0 hK0 => ?_))⟩) | (rw [if_neg (by intro e; cases e)]; with_reducible refine hK1 _ (wpQuiet_step (fun K0 hK0 => ?_)))
      clear hK1 K1
      go_simp
      first | (with_reducible refine hK0 _ (wpQuiet_step (fun K1 hK1 => ?_))) | (with_reducible refine ⟨_, fun _ _ => rfl, hK0 _ (wpQuiet_step (fun K1 hK1 => ?_))⟩) | (rw [if_neg (by intro e; cases e)]; with_reducible refine hK0 _ (wpQuiet_step (fun K1 hK1 => ?_)))
      clear hK0 K0
      go_simp
      first | (with_reducible refine hK1 _ (wpQuiet_step (fun K0 hK0 => ?_))) | (with_reducible refine ⟨_, fun _ _ => rfl, hK1 _ (wpQuiet_step (fun K0 hK0 => ?_))⟩) | (rw [if_neg (by intro e; cases e)]; with_reducible refine hK1 _ (wpQuiet_step (fun K0 hK0 => ?_)))
      clear hK1 K1
      go_simp
      first | (with_reducible refine hK0 _ (wpQuiet_step (fun K1 hK1 => ?_))) | (with_reducible refine ⟨_, fun _ _ => rfl, hK0 _ (wpQuiet_step (fun K1 hK1 => ?_))⟩) | (rw [if_neg (by intro e; cases e)]; with_reducible refine hK0 _ (wpQuiet_step (fun K1 hK1 => ?_)))
      clear hK0 K0
      go_simp
      first | (with_reducible refine hK1 _ (wpQuiet_step (fun K0 hK0 => ?_))) | (with_reducible refine ⟨_, fun _ _ => rfl, hK1 _ (wpQuiet_step (fun K0 hK0 => ?_))⟩) | (rw [if_neg (by intro e; cases e)]; with_reducible refine hK1 _ (wpQuiet_step (fun K0 hK0 => ?_)))
      clear hK1 K1
      go_simp
      first | (with_reducible refine hK0 _ (wpQuiet_step (fun K1 hK1 => ?_))) | (with_reducible refine ⟨_, fun _ _ => rfl, hK0 _ (wpQuiet_step (fun K1 hK1 => ?_))⟩) | (rw [if_neg (by intro e; cases e)]; with_reducible refine hK0 _ (wpQuiet_step (fun K1 hK1 => ?_)))
      clear hK0 K0
      go_simp
      first | (with_reducible refine hK1 _ (wpQuiet_step (fun K0 hK0 => ?_))) | (with_reducible refine ⟨_, fun _ _ => rfl, hK1 _ (wpQuiet_step (fun K0 hK0 => ?_))⟩) | (rw [if_neg (by intro e; cases e)]; with_reducible refine hK1 _ (wpQuiet_step (fun K0 hK0 => ?_)))
      clear hK1 K1
      go_simp
      first | (with_reducible refine hK0 _ (wpQuiet_step (fun K1 hK1 => ?_))) | (with_reducible refine ⟨_, fun _ _ => rfl, hK0 _ (wpQuiet_step (fun K1 hK1 => ?_))⟩) | (rw [if_neg (by intro e; cases e)]; with_reducible refine hK0 _ (wpQuiet_step (fun K1 hK1 => ?_)))
      clear hK0 K0
      go_simp
      first | (with_reducible refine hK1 _ (wpQuiet_step (fun K0 hK0 => ?_))) | (with_reducible refine ⟨_, fun _ _ => rfl, hK1 _ (wpQuiet_step (fun K0 hK0 => ?_))⟩) | (rw [if_neg (by intro e; cases e)]; with_reducible refine hK1 _ (wpQuiet_step (fun K0 hK0 => ?_)))
      clear hK1 K1
      go_simp
      first | (with_reducible refine hK0 _ (wpQuiet_step (fun K1 hK1 => ?_))) | (with_reducible refine ⟨_, fun _ _ => rfl, hK0 _ (wpQuiet_step (fun K1 hK1 => ?_))⟩) | (rw [if_neg (by intro e; cases e)]; with_reducible refine hK0 _ (wpQuiet_step (fun K1 hK1 => ?_)))
      clear hK0 K0
      go_simp
      first | (with_reducible refine hK1 _ (wpQuiet_nil ?_)) | (with_reducible refine ⟨_, fun _ _ => rfl, hK1 _ (wpQuiet_nil ?_)⟩) | (rw [if_neg (by intro e; cases e)]; with_reducible refine hK1 _ (wpQuiet_nil ?_))
      clear hK1 K1
      intro w3 H3
      clear KL
      have NB : ∀ k, (Value.slice p l.length c).ownBlock = some k → k < w.heap.size := fun k e => (HO.out.lt k e).2
      have H4 := H3.step (below_alloc w3 (.cells #[.int .u64 (hi a : Nat), .int .u64 (lo a : Nat)] 31))
      have HOA := own_keep HO.out H4.1
      have hs3 := H3.1.size
      have BB := H4.1.mono hbase
      have BZ := Nat.le_trans hbase H4.1.size
      obtain ⟨_, ⟨z0, z1, z2, _⟩, _⟩ := id H3
      go_wp2_with (at_builtin; go_loud (refine wpList_append_lies _ rfl (.tmp 35) (.tmp 37) 23 rfl base 31 i0 (.agg #[.int .u64 0, .int .u64 0]) 2 16 Tryz.underlying23 hi0 hz0 hz1 hz2 rfl (by decide) _ _ _ rfl HOA ⟨w3.heap.size, 0, none⟩ 1 1 (cellsA [a]) rfl rfl own_two (cellsA_one _) (by omega) (by unfold maxLen; omega) (by omega) BZ _ rfl ?_); go_loud (intro g4 cap4 w4 hown4 hgrow4 hat hlt4; have T4 := H4.2.1.grown hgrow4 (fun e => by have := NB _ e.symm; omega); have BB4 := BB.grown hgrow4 BZ (fun j hj => (HOA.lt j hj).1); have G4 : g4 ≠ w.heap.size := (by rcases hat with e | e; (have := NB _ e; omega); (rw [World.size_alloc] at e; omega)); have bg4 : base ≤ g4 := base_le hown4; rw [← cellsA_append] at hown4; clear z0 z1 z2 hat hgrow4 H3 H4 HOA BB BZ NB HH))
      have I0 : (l.length : Int) + 1 - 1 = (l.length : Int) := by omega
      go_wp2_with fail
      go_loopw [6] (fun i wr => ∃ (j y : Nat), k ≤ j ∧ j ≤ l.length ∧ i = .int .i64 (j : Nat) ∧ wr.ownsRow base 31 2 (.slice (some ⟨g4, 0, none⟩) (l.length + 1) cap4) (l.length + 1) (cellsA (l.take j ++ y :: l.drop j)) ∧ Two w.heap.size a wr ∧ Below base w wr) (fun i _ => (intOf i).toNat)
      case atStart => exact ⟨l.length, a, hk, Nat.le_refl _, (by first | rfl | (rw [I0])), by rw [List.take_length, List.drop_length]; exact hown4, T4, BB4⟩
      case round =>
        obtain ⟨j, y, hj1, hj2, rfl, hown5, T5, B5⟩ := hrel
        clear hown4 T4 BB4
        by_cases hgt : k < j
        · exfalso; omega
        · have e : j = k := by omega
          subst e
          have K1 : ¬ (j : Int) < (j : Int) := by omega
          obtain ⟨_, z1, z2, _⟩ := id T5
          have xl := hown5.1
          obtain ⟨u0, v0⟩ : ∃ u, (cellsA (l.take j ++ y :: l.drop j))[j * 2]? = some u := ⟨_, List.getElem?_eq_getElem (by omega)⟩
          obtain ⟨u1, v1⟩ : ∃ u, (cellsA (l.take j ++ y :: l.drop j))[j * 2 + 1]? = some u := ⟨_, List.getElem?_eq_getElem (by omega)⟩
          have s0 := (hown5.cellAt (j * 2) (by omega)).trans v0
          have s1 := (hown5.cellAt (j * 2 + 1) (by omega)).trans v1
          have f0 := hown5.frozenAt (j * 2)
          have f1 := hown5.frozenAt (j * 2 + 1)
          have O6 := ((hown5.stored (j * 2) (.int .u64 (hi a : Nat))).1.stored (j * 2 + 1) (.int .u64 (lo a : Nat))).1
          rw [cellsA_set, put_last hj2] at O6
          have B6 := (B5.setCell (show base ≤ (⟨g4, j * 2, none⟩ : Go.Addr).block from bg4) (.int .u64 (hi a : Nat))).setCell (show base ≤ (⟨g4, j * 2 + 1, none⟩ : Go.Addr).block from bg4) (.int .u64 (lo a : Nat))
          have K4 : (j : Int) < (l.length : Int) + 1 := by omega
          have LN := hide (ins_len (y := a) hj2)
          clear v0 v1 xl hown5 T5 B5
          go_wp2
          go_ret
          refine ⟨_, rfl, B6, ?_⟩
          rw [WB.out]
          unfold OwnA
          rw [LN.out]
          exact O6
end Go.Proofs.YtfmhpnendcikoaaGreat
