/-
  The contracts of Without and of awake. Condition: a row of options takes at most 2^47 bytes.
-/
import Derived.Test.YtmoklodaeicpgaaOpY
import Derived.Test.YtmoklodaeicpgaaOpS
namespace Go.Proofs.Ytmoklodaeicpgaa
open Go.RowKit Go.Joins Go.Maps

set_option maxRecDepth 100000 in
set_option maxHeartbeats 1000000 in
theorem without_any (c : UInt8) {v : Value} {l : List Opt} (hl : l.length * 24 ≤ 140737488355328) (w : World) (hv : LstO v l w) :
    Calls Try.prog 20 #[v, KV c] w (MakesO w.heap.size (kept c l) w) := by
  have CL := hide (clone_any hl w hv)
  clear hv
  go_enter Try.func20, Try.ntmps20
  go_wp2_with fail
  refine CL.out.mono ?_
  rintro e w1 ⟨v1, rfl, hb1, ho1⟩
  have HB1 := hide hb1
  have HO1 := hide ho1
  clear hb1 ho1
  go_wp2_with fail
  refine (of_any c w1).mono ?_
  rintro e w2 ⟨rfl, hb2, hx2⟩
  have HB2 := hide hb2
  have HX2 := hide hx2
  clear hb2 hx2
  have DL := hide (delete_any c hl w2 (own_keep HO1.out HB2.out) (Nat.le_trans HB1.out.size HB2.out.size) w1.heap.size HX2.out (fun e => Nat.lt_irrefl _ (HO1.out.lt _ e).2))
  go_wp2_with fail
  refine DL.out.mono ?_
  rintro e w3 ⟨v3, rfl, hb3, ho3⟩
  have HF := hide (And.intro ((chain HB1.out HB2.out).trans hb3) ho3)
  clear hb3 ho3
  go_wp2
  go_ret
  exact ⟨_, rfl, HF.out.1, HF.out.2⟩
theorem lstS_two (W : World) (a b : ByteArray) (t : TypeId) : LstS (.slice (some ⟨W.heap.size, 0, none⟩) 2 2) [a, b] (W.alloc (.cells #[.string a, .string b] t)) := by
  refine Or.inr ⟨W.heap.size, 0, 2, rfl, by simp, fun j s hj => ?_⟩
  match j, hj with
  | 0, hj => simp at hj; subst hj; simp [go_sem]
  | 1, hj => simp at hj; subst hj; simp [go_sem]
  | j + 2, hj => simp at hj
theorem lstO_new (W : World) (l : List Opt) (cs : Array Value) (t : TypeId) (hc : cs.toList = cellsO l) (hl : l.length ≤ 9223372036854775807) : LstO (.slice (some ⟨W.heap.size, 0, none⟩) l.length l.length) l (W.alloc (.cells cs t)) := by
  by_cases h0 : l = []
  · subst h0; exact Or.inl ⟨_, _, rfl, rfl, fun e => (by cases e), by simp⟩
  · have key : ∀ i u, (cellsO l)[i]? = some u → (W.alloc (.cells cs t)).cell? ⟨W.heap.size, i, none⟩ = some u := fun i u hu => by
      rw [cell_at (heap_alloc_new W (.cells cs t))]
      rw [← hc] at hu
      simpa using hu
    refine Or.inr ⟨W.heap.size, 0, l.length, rfl, ⟨by simp, fun j x hj => ?_⟩, Nat.le_refl _, h0, hl⟩
    obtain ⟨c0, c1⟩ := cellsO_at hj
    rw [Nat.zero_add]
    exact ⟨key _ _ c0, key _ _ c1⟩
abbrev A1 : ByteArray := ⟨#[12, 1, 97, 0]⟩
abbrev A2 : ByteArray := ⟨#[53, 0, 12, 1, 98, 255, 153]⟩
abbrev AB : ByteArray := ⟨#[97, 98]⟩
abbrev L1 : List Opt := [(12, AB), (53, ⟨#[]⟩)]
theorem awake1 : parseE ([A1, A2].map lb) = 0 ∧ parseO ([A1, A2].map lb) = L1 := by decide +kernel
theorem awake2 : emitE [(53, ⟨#[1]⟩)] = 0 ∧ emitS [(53, ⟨#[1]⟩)] = [53, 1, 1, 255] := by decide +kernel
theorem awake3 : findD L1 12 = AB ∧ hasC 12 L1 = true ∧ kept 12 L1 = [(53, ⟨#[]⟩)] := by decide +kernel
def Par (W : World) (e : Ending) (w2 : World) : Prop := ∃ v, e = .returned (.tuple #[v, .int .i64 0]) ∧ Below W.heap.size W w2 ∧ LstO v L1 w2
theorem a_parse (W V : World) (hV : V = W.alloc (.cells #[.string A1, .string A2] 9)) : Calls Try.prog 19 #[.slice (some ⟨W.heap.size, 0, none⟩) 2 2] V (Par V) := by
  have hl := lstS_two W A1 A2 9
  rw [← hV] at hl
  have h := parse_any (ar := [A1, A2]) (by simp) (fun s hs => by
    have e : s = A1 ∨ s = A2 := by simpa using hs
    rcases e with e | e
    · rw [e]; exact Nat.le_trans (show (4 : Nat) ≤ 7 by omega) (by omega)
    · rw [e]; exact Nat.le_trans (show (7 : Nat) ≤ 7 by omega) (by omega)) V hl
  refine h.mono ?_
  rintro e w2 ⟨v, rfl, hb, ho⟩
  rw [awake1.2] at ho
  rw [awake1.1]
  exact ⟨v, rfl, hb, ownO_lst ho⟩
theorem a_emit (W V : World) (hV : V = W.alloc (.cells #[.int .u8 53, .string ⟨#[1]⟩] 47)) : Calls Try.prog 18 #[.slice (some ⟨W.heap.size, 0, none⟩) 1 1] V (Gives (.tuple #[.string ⟨#[53, 1, 1, 255]⟩, .int .i64 0]) V) := by
  have hl := lstO_new W [(53, ⟨#[1]⟩)] #[.int .u8 53, .string ⟨#[1]⟩] 47 rfl (by simp)
  rw [← hV] at hl
  have h := emit_any (l := [(53, ⟨#[1]⟩)]) (by simp) V hl
  refine h.mono ?_
  rintro e w2 ⟨rfl, hb⟩
  rw [awake2.1, awake2.2]
  exact ⟨rfl, hb⟩
theorem a_find (W : World) (v : Value) (h : LstO v L1 W) : Calls Try.prog 29 #[v, .int .u8 12] W (Gives (.tuple #[.string AB, .bool true]) W) := by
  have h := find_any 12 (l := L1) (by simp) W h
  rw [awake3.1, awake3.2.1] at h
  exact h
theorem a_without (W : World) (v : Value) (h : LstO v L1 W) : Calls Try.prog 20 #[v, .int .u8 12] W (fun e w2 => ∃ v2, e = .returned v2 ∧ Below W.heap.size W w2 ∧ LstO v2 [(53, ⟨#[]⟩)] w2) := by
  have h := without_any 12 (l := L1) (by simp) W h
  rw [awake3.2.2] at h
  refine h.mono ?_
  rintro e w2 ⟨v2, rfl, hb, ho⟩
  exact ⟨v2, rfl, hb, ownO_lst ho⟩
end Go.Proofs.Ytmoklodaeicpgaa
