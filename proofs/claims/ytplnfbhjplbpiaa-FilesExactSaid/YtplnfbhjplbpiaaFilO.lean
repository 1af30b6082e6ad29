/-
  The contract of Names. No condition.
-/
import Derived.Test.YtplnfbhjplbpiaaFilS
import Derived.Test.YtplnfbhjplbpiaaFilIt
namespace Go.Proofs.Ytplnfbhjplbpiaa
open Go.RowKit Go.Maps

theorem rowS_nil (w : World) : RowS w (.slice none 0 0) [] := ⟨none, 0, rfl, fun j x hj => by simp at hj⟩
theorem dnames_nil (w : World) : Calls Try.prog 18 #[.pointer none] w (GivesNames w []) := by
  go_enter Try.func18, Try.ntmps18
  go_wp2
  go_ret
  exact ⟨_, rfl, Fr.refl _ _, rowS_nil w⟩
theorem Dsk.perm {w : World} {d m : Nat} {O : Nat → Prop} {D : DataW Unit} {fb : Nm → Nat} {sv : Nm → Value} {s : Dk} (h : Dsk w d m O D fb sv s) : (names s.fs).Perm (strKeys D) := by
  obtain ⟨es, hD, hpw, _⟩ := h.map.entries KS
  obtain ⟨es', hD', hko⟩ := h.map.keysOf
  obtain rfl : es = es' := by rw [hD] at hD'; simpa using hD'
  have hp := perm_strKeys hpw (fun p hp => by obtain ⟨v, hv⟩ := hko p hp; obtain ⟨x, _, hx, _⟩ := Maps.keyOf_str Try.underlying9 hv; exact ⟨x, hx⟩) (names_nodup h.ok.srt) (fun x => by rw [mem_names, ← hD, h.keys])
  rw [hD]
  exact hp
set_option maxHeartbeats 1000000 in
theorem dnames_any {w : World} {d : Nat} {O : Nat → Prop} {s : Dk} (h : IsDsk w d O s) : Calls Try.prog 18 #[Pt d] w (GivesNames w (names s.fs)) := by
  refine (callsIn_wide (n := 6)).1 ?_
  obtain ⟨m, D, fb, sv, h⟩ := h
  obtain ⟨l, _, _, c0, _⟩ := h.cells
  have HP := hide h.perm
  have HS := hide (names_sorted h.ok.srt)
  have SO := hide (sorted_at w h.map (by rw [h.size]; have := h.ok.len; omega))
  clear h
  have hfK : Fence.wide.fn 41 := trivial
  have hfS : Fence.wide.fn 40 := trivial
  refine callsIn_of_wp Try.func18 rfl trivial ?_ rfl
  simp only [Try.ntmps18, List.size_toArray, List.length_cons, List.length_nil, Nat.reduceAdd, Nat.reduceSub, Array.replicate_succ, Array.replicate_zero, List.push_toArray, List.append_toArray, List.nil_append, List.cons_append]
  gi_wp2_with (first
    | (gi_at_call 41; refine (keys_at _ _).mono ?_; rintro e w' ⟨rfl, rfl⟩)
    | (gi_at_call 40; refine SO.out.mono ?_; rintro e w' ⟨v, ss, rfl, hS, hrow, hnil, hb⟩))
  go_ret
  have e1 : (ss.mergeSort (fun x y => decide (x ≤ y))) = names _ := (mergeSort_of_perm (hS.trans HP.out.symm)).trans HS.out
  rw [e1] at hrow
  exact ⟨v, rfl, (Fr.alloc _ _).andNo (Fr.ofBelow hb), RowS.own hrow⟩
theorem names_ok : NamesOk := fun _ _ _ _ h => dnames_any h
end Go.Proofs.Ytplnfbhjplbpiaa
