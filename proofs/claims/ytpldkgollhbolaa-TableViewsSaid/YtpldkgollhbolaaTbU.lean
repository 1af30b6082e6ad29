/-
  The library's heap at a table's leases: up, down, Push, Remove. No condition beyond those in each theorem's own statement.
-/
import Derived.Test.YtpldkgollhbolaaTbP
namespace Go.Proofs.Ytpldkgollhbolaa
open Go.RowKit Go.Joins Go.Maps

variable {w w' : World} {t km om : Nat} {O : Nat → Prop} {v : Value} {E : List En}
theorem meth_len (h : w.cell? ⟨t, 2, none⟩ = some v) (F : Nat) : (method (F + 1) 100 (.pointer (some ⟨t, 2, none⟩)) "Len").run Try.prog w = .ok (103, v) w := by
  have : (method (F + 1) 100 (.pointer (some ⟨t, 2, none⟩)) "Len").run Try.prog w = (do let v ← loadVar 71 ⟨t, 2, none⟩; pure (103, v) : Sem (FuncId × Value)).run Try.prog w := by kernel_rfl
  rw [this]
  simp [go_sem, loadVar, h]
theorem meth_less (h : w.cell? ⟨t, 2, none⟩ = some v) (F : Nat) : (method (F + 1) 100 (.pointer (some ⟨t, 2, none⟩)) "Less").run Try.prog w = .ok (104, v) w := by
  have : (method (F + 1) 100 (.pointer (some ⟨t, 2, none⟩)) "Less").run Try.prog w = (do let v ← loadVar 71 ⟨t, 2, none⟩; pure (104, v) : Sem (FuncId × Value)).run Try.prog w := by kernel_rfl
  rw [this]
  simp [go_sem, loadVar, h]
theorem meth_swap (h : w.cell? ⟨t, 2, none⟩ = some v) (F : Nat) : (method (F + 1) 100 (.pointer (some ⟨t, 2, none⟩)) "Swap").run Try.prog w = .ok (105, v) w := by
  have : (method (F + 1) 100 (.pointer (some ⟨t, 2, none⟩)) "Swap").run Try.prog w = (do let v ← loadVar 71 ⟨t, 2, none⟩; pure (105, v) : Sem (FuncId × Value)).run Try.prog w := by kernel_rfl
  rw [this]
  simp [go_sem, loadVar, h]
theorem meth_push (t : Nat) (w : World) (F : Nat) : (method (F + 1) 100 (.pointer (some ⟨t, 2, none⟩)) "Push").run Try.prog w = .ok (107, .pointer (some ⟨t, 2, none⟩)) w := by kernel_rfl
theorem meth_pop (t : Nat) (w : World) (F : Nat) : (method (F + 1) 100 (.pointer (some ⟨t, 2, none⟩)) "Pop").run Try.prog w = .ok (106, .pointer (some ⟨t, 2, none⟩)) w := by kernel_rfl
abbrev Hv (t : Nat) : Value := .iface 100 (.pointer (some ⟨t, 2, none⟩))

theorem un_swap (E : List En) {i j : Nat} (hi : i < E.length) (hj : j < E.length) (k : Nat) : unE (swapL E i j) k = sw (unE E) i j k := by
  unfold sw
  by_cases h1 : k = i
  · subst h1; rw [if_pos rfl]; unfold unE; rw [swapL_i hi hj]
  · rw [if_neg h1]
    by_cases h2 : k = j
    · subst h2; rw [if_pos rfl]; unfold unE; rw [swapL_j hi hj]
    · rw [if_neg h2]; unfold unE; rw [swapL_ne h1 h2]
/-- behind a call that sifts: the same leases, those from n on where they were -/
structure Sft (w : World) (t km om : Nat) (O : Nat → Prop) (v : Value) (E : List En) (n : Nat) (w' : World) (E' : List En) : Prop where
  hp : Hp O w w'
  size : w'.heap.size = w.heap.size
  ends : Ends w' t km om O v E'
  perm : E'.Perm E
  far : ∀ k, n ≤ k → E'[k]? = E[k]?
theorem Hp.same {O : Nat → Prop} {a b : World} (h : Hp O w a) (k : Hp O a b) : Hp O w b := h.trans ⟨k.fr.mono (fun _ _ e => Or.inl e), k.maps⟩
theorem Sft.drew {n : Nat} {a : World} {E' : List En} (h : Sft w t km om O v E n a E') (q : Nat) : Sft w t km om O v E n (a.drewN q) E' :=
  ⟨h.hp.same (Hp.drewN _ _ _), h.size, h.ends.below (below_drewN _ _), h.perm, h.far⟩
theorem Sft.swp {n : Nat} {a b : World} {E' : List En} {r : Value} {e : Ending} {i j : Nat} (h : Sft w t km om O v E n a E') (k : Swp a t km om O v (swapL E' i j) r e b) (hi : i < n) (hj : j < n) : Sft w t km om O v E n b (swapL E' i j) :=
  ⟨h.hp.same k.2.1, k.2.2.1.trans h.size, k.2.2.2, (swapL_perm _ _ _).trans h.perm, fun q hq => by rw [swapL_ne (by omega) (by omega)]; exact h.far q hq⟩
def UpPost (w : World) (t km om : Nat) (O : Nat → Prop) (v : Value) (E : List En) (n : Nat) (r : Value) (e : Ending) (w' : World) : Prop := e = .returned r ∧ ∃ E', Sft w t km om O v E n w' E' ∧ HeapF (unE E') n
set_option maxRecDepth 100000 in
set_option maxHeartbeats 2000000 in
theorem hup_any (h : Ends w t km om O v E) (a : Int) (ha0 : 0 ≤ a) {n : Nat} (han : a.toNat < n) (hn : n ≤ E.length) (hU : UpInv (unE E) n a.toNat) :
    Calls Try.prog 71 #[Hv t, .int .i64 a] w (UpPost w t km om O v E n (.tuple #[])) := by
  obtain ⟨j, rfl⟩ := Int.eq_ofNat_of_zero_le ha0
  rw [Int.toNat_natCast] at han hU
  have H0 := hide (show Sft w t km om O v E n w E from ⟨Hp.refl _ _, rfl, h, .refl _, fun _ _ => rfl⟩)
  have U0 := hide hU
  have HN := hide hn
  have HL := hide h.len
  clear h hU hn
  go_enter Try.func71, Try.ntmps71
  go_wp2_with fail
  go_loopw [1, 4] (fun j' _ wr => ∃ (k : Nat) (E' : List En), j' = .int .i64 (k : Int) ∧ k < n ∧ Hid (Sft w t km om O v E n wr E') ∧ Hid (UpInv (unE E') n k)) (fun j' _ _ => (intOf j').toNat)
  case atStart => exact ⟨j, E, rfl, han, H0, U0⟩
  case round =>
    obtain ⟨k, E', rfl, hk, HS, HU⟩ := hrel
    have hEl : E'.length = E.length := HS.out.perm.length_eq
    have HEL := hide hEl
    have hk2 : (k : Int) < E'.length := by have := HN.out; omega
    have hk3 : (k : Int) ≤ 2000 := by have := HN.out; have := HL.out; omega
    clear hEl
    have mL := meth_less HS.out.ends.cell
    by_cases hk0 : k = 0
    · subst hk0
      go_wp2
      go_end0
      exact ⟨rfl, E', HS.out, up_stop HU.out (Or.inl rfl)⟩
    · obtain ⟨i, hi⟩ : ∃ i : Nat, i = (k - 1) / 2 := ⟨_, rfl⟩
      have hi2 : ((k : Int) - 1) / 2 = (i : Int) := by omega
      have hne : ((i : Int) == (k : Int)) = false := by rw [beq_eq_false_iff_ne]; omega
      have hk1 : (1 : Int) ≤ k := by omega
      have HI := hide hi
      have hik : i < k := by omega
      clear hi hk0
      have LL := less_any HS.out.ends (k : Int) (i : Int) (by omega) hk2 (by omega) (by omega)
      rw [Int.toNat_natCast, Int.toNat_natCast] at LL
      by_cases hlt : unE E' k < unE E' i
      · rw [decide_eq_true hlt] at LL
        have HLT := hide hlt
        have LLH := hide LL
        clear LL hlt
        go_wp2_with fail
        refine LLH.out.mono ?_
        rintro e w2 ⟨rfl, q, rfl⟩
        have HS2 := hide (HS.out.drew q)
        have mS := meth_swap HS2.out.ends.cell
        have SW := hide (swap_any HS2.out.ends (i : Int) (k : Int) (by omega) (by omega) (by omega) hk2 (by omega))
        clear mL
        go_wp2_with fail
        refine SW.out.mono ?_
        rintro e w3 hsw
        have hsw' := hsw
        obtain ⟨rfl, -⟩ := hsw
        rw [Int.toNat_natCast, Int.toNat_natCast] at hsw'
        have HS3 := hide (HS2.out.swp hsw' (show i < n by omega) hk)
        clear hsw' mS
        have HU3 : Hid (UpInv (unE (swapL E' i k)) n i) := hide (up_congr (up_step HU.out (by omega) hk HI.out.symm HLT.out) (by omega) (fun q hq => (un_swap E' (by omega) (by omega) q).symm))
        go_wp2
        go_roundw
        case rel => exact ⟨i, _, rfl, by omega, HS3, HU3⟩
        case measure => simp [intOf]; omega
      · rw [decide_eq_false hlt] at LL
        have HLT := hide hlt
        have LLH := hide LL
        clear LL hlt
        go_wp2_with fail
        refine LLH.out.mono ?_
        rintro e w2 ⟨rfl, q, rfl⟩
        go_wp2
        go_end0
        exact ⟨rfl, E', HS.out.drew q, up_stop HU.out (Or.inr (by rw [← HI.out]; have := HLT.out; omega))⟩
end Go.Proofs.Ytpldkgollhbolaa
