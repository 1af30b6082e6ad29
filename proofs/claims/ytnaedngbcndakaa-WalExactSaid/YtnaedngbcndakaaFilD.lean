/-
  The contracts of find and step's parts: what is looked up in the map of files. Conditions: a string is no longer than an int (every string is such).
-/
import Derived.Test.YtnaedngbcndakaaFilC
namespace Go.Proofs.Ytnaedngbcndakaa
open Go.RowKit Go.Maps

variable {w w' : World} {d m : Nat} {O : Nat → Prop} {D : DataW Unit} {fb : Nm → Nat} {sv : Nm → Value} {s : Dk}
theorem zeroF (w : World) : (zeroValue 79).run Try.prog w = .ok (.pointer none) w := by kernel_rfl
theorem lookup_yes (h : Dsk w d m O D fb sv s) {x : Nm} {f : Fl} (hf : find s.fs x = some f) :
    (Instr.lookup 70 (.map (some m)) (St x) true).run Try.prog w = .ok (.tuple #[Pt (fb x), .bool true]) w := by
  have hx : (find s.fs x).isSome = true := by rw [hf]; rfl
  have hl := h.nm_le hx
  obtain ⟨v, ps, hrun, hv⟩ := h.map.look_ok KS Try.underlying70 (zeroF w) (zd := .nil) rfl (key_st (l := x) (by unfold maxLen; omega))
  rw [(h.file x f hf).1] at hv
  rw [h.keys, hx] at hrun
  rw [ptr_lit hv] at hrun
  exact hrun
theorem lookup_no (h : Dsk w d m O D fb sv s) {x : Nm} (hf : find s.fs x = none) (hl : x.length ≤ maxLen) :
    (Instr.lookup 70 (.map (some m)) (St x) true).run Try.prog w = .ok (.tuple #[.pointer none, .bool false]) w := by
  have hx : (find s.fs x).isSome = false := by rw [hf]; rfl
  obtain ⟨v, ps, hrun, hv⟩ := h.map.look_ok KS Try.underlying70 (zeroF w) (zd := .nil) rfl (key_st (l := x) hl)
  have hh := h.keys x
  rw [hx] at hh
  rw [atKey_of_not_has hh] at hv
  rw [hh, ptr_nil hv] at hrun
  exact hrun
theorem look_quiet {P : Program} {t : TypeId} {mv kv r : Value} {q : Bool} {w : World} (h : ∀ w2, w2.heap = w.heap → (Instr.lookup t mv kv q).run P w2 = .ok r w2) (n : Nat) : (Instr.lookup t mv kv q).run P (w.drewN n) = .ok r (w.drewN n) := h _ rfl

theorem find_nil_any (v : Value) (w : World) : Calls Try.prog 59 #[.pointer none, v] w (Same (.tuple #[.pointer none, .int .i64 2]) w) := by
  go_enter Try.func59, Try.ntmps59
  go_wp2_with (go_at_call 53; refine (check_nil _ _).mono ?_; rintro e w2 ⟨rfl, rfl⟩)
  go_ret2
  exact ⟨rfl, rfl⟩
set_option maxRecDepth 100000 in
set_option maxHeartbeats 1000000 in
theorem find_bad (h : IsDsk w d O s) {g cap : Nat} {xs : List Nm} (hn : xs.length ≤ 2) (hx : ∀ j x, xs[j]? = some x → w.cell? ⟨g, j, none⟩ = some (St x) ∧ x.length ≤ maxLen) {c : Int} (hc : checkI s xs = c) (hc0 : (c == 0) = false) :
    Calls Try.prog 59 #[Pt d, .slice (some ⟨g, 0, none⟩) xs.length cap] w (Same (.tuple #[.pointer none, .int .i64 c]) w) := by
  have C := check_any h hn (cap := cap) hx
  rw [hc] at C
  have C2 := hide C
  have hc1 : ¬ c = 0 := by simpa using hc0
  clear hx hc C h
  go_enter Try.func59, Try.ntmps59
  go_wp2_with (go_at_call 53; refine C2.out.mono ?_; rintro e w2 ⟨rfl, rfl⟩)
  go_ret2
  exact ⟨rfl, rfl⟩
set_option maxRecDepth 100000 in
set_option maxHeartbeats 1000000 in
theorem find_yes (h : Dsk w d m O D fb sv s) {g cap : Nat} {x : Nm} {xs : List Nm} (hn : xs.length ≤ 1) (hx : ∀ j y, (x :: xs)[j]? = some y → w.cell? ⟨g, j, none⟩ = some (St y) ∧ y.length ≤ maxLen) (hc : checkI s (x :: xs) = 0) {f : Fl} (hf : find s.fs x = some f) :
    Calls Try.prog 59 #[Pt d, .slice (some ⟨g, 0, none⟩) (xs.length + 1) cap] w (Tells w (.tuple #[Pt (fb x), .int .i64 0])) := by
  have C := check_any ⟨m, D, fb, sv, h⟩ (xs := x :: xs) (by simp; omega) (cap := cap) hx
  rw [hc] at C
  have C2 := hide C
  obtain ⟨l, _, _, c0, _⟩ := h.cells
  obtain ⟨cx, _⟩ := hx 0 x rfl
  have LK : ∀ n, (Instr.lookup 70 (.map (some m)) (St x) true).run Try.prog (w.drewN n) = .ok (.tuple #[Pt (fb x), .bool true]) (w.drewN n) := fun n => lookup_yes (h.no (Fr.drewN w n)) hf
  clear hx hc C h
  go_enter Try.func59, Try.ntmps59
  go_wp2_with (go_at_call 53; refine C2.out.mono ?_; rintro e w2 ⟨rfl, rfl⟩)
  go_quiet (fail)
  go_wp2
  go_ret2
  exact ⟨rfl, Fr.drewN _ _⟩
end Go.Proofs.Ytnaedngbcndakaa
