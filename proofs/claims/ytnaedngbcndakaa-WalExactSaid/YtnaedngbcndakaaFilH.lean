/-
  The contracts of Read, Sync, Cut, Delete, Rename. Conditions: an int is one of 64 bits, a string is no longer than an int, and fewer than 2^62 operations have been answered OK.
-/
import Derived.Test.YtnaedngbcndakaaFilG
namespace Go.Proofs.Ytnaedngbcndakaa
open Go.RowKit Go.Maps

variable {w w' : World} {d m : Nat} {O : Nat → Prop} {D : DataW Unit} {fb : Nm → Nat} {sv : Nm → Value} {s : Dk}
/-- the world in which one name lies in a row -/
abbrev Row1 (w : World) (x : Nm) : World := w.alloc (.cells #[St x] 9)
abbrev Row2 (w : World) (x y : Nm) : World := w.alloc (.cells #[St x, St y] 9)
theorem row1_at (w : World) {x : Nm} (hx : x.length ≤ maxLen) : ∀ j y, [x][j]? = some y → (Row1 w x).cell? ⟨w.heap.size, j, none⟩ = some (St y) ∧ y.length ≤ maxLen := fun j y hj => by
  rw [cell_at (MapKept.heap_alloc w _).1]
  match j, hj with
  | 0, hj => cases hj; exact ⟨rfl, hx⟩
theorem row2_at (w : World) {x y : Nm} (hx : x.length ≤ maxLen) (hy : y.length ≤ maxLen) : ∀ j z, [x, y][j]? = some z → (Row2 w x y).cell? ⟨w.heap.size, j, none⟩ = some (St z) ∧ z.length ≤ maxLen := fun j z hj => by
  rw [cell_at (MapKept.heap_alloc w _).1]
  match j, hj with
  | 0, hj => cases hj; exact ⟨rfl, hx⟩
  | 1, hj => cases hj; exact ⟨rfl, hy⟩
theorem tells_of {w w1 : World} {v : Value} {e : Ending} {w2 : World} (k : Fr No w w1) (h : Tells w1 v e w2) : Tells w v e w2 := ⟨h.1, k.trans h.2 (fun _ _ e => e)⟩
theorem same_tells {w w1 : World} {v : Value} {e : Ending} {w2 : World} (k : Fr No w w1) (h : Same v w1 e w2) : Tells w v e w2 := ⟨h.1, h.2 ▸ k⟩
theorem chk1 (s : Dk) (x : Nm) : (s.down = true ∧ checkI s [x] = 60) ∨ (s.down = false ∧ nameB x = false ∧ checkI s [x] = 61) ∨ (s.down = false ∧ nameB x = true ∧ checkI s [x] = 0) := by
  unfold checkI
  cases s.down <;> cases h : nameB x <;> simp [h]
theorem chk2 (s : Dk) (x y : Nm) : (s.down = true ∧ checkI s [x, y] = 60) ∨ (s.down = false ∧ (nameB x && nameB y) = false ∧ checkI s [x, y] = 61) ∨ (s.down = false ∧ (nameB x && nameB y) = true ∧ checkI s [x, y] = 0) := by
  unfold checkI
  cases s.down <;> cases h : nameB x <;> cases h2 : nameB y <;> simp [h, h2]
theorem find1_nil (x : Nm) (w : World) : Calls Try.prog 59 #[.pointer none, .slice (some ⟨w.heap.size, 0, none⟩) 1 1] (Row1 w x) (Tells w (.tuple #[.pointer none, .int .i64 2])) :=
  (find_nil_any _ _).mono (fun _ _ h => same_tells (Fr.alloc _ _) h)
theorem find2_nil (x y : Nm) (w : World) : Calls Try.prog 59 #[.pointer none, .slice (some ⟨w.heap.size, 0, none⟩) 2 2] (Row2 w x y) (Tells w (.tuple #[.pointer none, .int .i64 2])) :=
  (find_nil_any _ _).mono (fun _ _ h => same_tells (Fr.alloc _ _) h)
theorem find1_bad (h : IsDsk w d O s) {x : Nm} (hx : x.length ≤ maxLen) {c : Int} (hc : checkI s [x] = c) (hc0 : (c == 0) = false) :
    Calls Try.prog 59 #[Pt d, .slice (some ⟨w.heap.size, 0, none⟩) 1 1] (Row1 w x) (Tells w (.tuple #[.pointer none, .int .i64 c])) :=
  (find_bad (h.no (Fr.alloc _ _)) (xs := [x]) (by simp) (row1_at w hx) hc hc0).mono (fun _ _ h => same_tells (Fr.alloc _ _) h)
theorem find2_bad (h : IsDsk w d O s) {x y : Nm} (hx : x.length ≤ maxLen) (hy : y.length ≤ maxLen) {c : Int} (hc : checkI s [x, y] = c) (hc0 : (c == 0) = false) :
    Calls Try.prog 59 #[Pt d, .slice (some ⟨w.heap.size, 0, none⟩) 2 2] (Row2 w x y) (Tells w (.tuple #[.pointer none, .int .i64 c])) :=
  (find_bad (h.no (Fr.alloc _ _)) (xs := [x, y]) (by simp) (row2_at w hx hy) hc hc0).mono (fun _ _ h => same_tells (Fr.alloc _ _) h)
theorem find1_none (h : Dsk w d m O D fb sv s) {x : Nm} (hx : x.length ≤ maxLen) (hc : checkI s [x] = 0) (hf : find s.fs x = none) :
    Calls Try.prog 59 #[Pt d, .slice (some ⟨w.heap.size, 0, none⟩) 1 1] (Row1 w x) (Tells w (.tuple #[.pointer none, .int .i64 62])) :=
  (find_none_any (h.no (Fr.alloc _ _)) (x := x) (xs := []) (by simp) (row1_at w hx) hc hf).mono (fun _ _ h => tells_of (Fr.alloc _ _) h)
theorem find2_none (h : Dsk w d m O D fb sv s) {x y : Nm} (hx : x.length ≤ maxLen) (hy : y.length ≤ maxLen) (hc : checkI s [x, y] = 0) (hf : find s.fs x = none) :
    Calls Try.prog 59 #[Pt d, .slice (some ⟨w.heap.size, 0, none⟩) 2 2] (Row2 w x y) (Tells w (.tuple #[.pointer none, .int .i64 62])) :=
  (find_none_any (h.no (Fr.alloc _ _)) (x := x) (xs := [y]) (by simp) (row2_at w hx hy) hc hf).mono (fun _ _ h => tells_of (Fr.alloc _ _) h)
theorem find1_yes (h : Dsk w d m O D fb sv s) {x : Nm} (hx : x.length ≤ maxLen) (hc : checkI s [x] = 0) {f : Fl} (hf : find s.fs x = some f) :
    Calls Try.prog 59 #[Pt d, .slice (some ⟨w.heap.size, 0, none⟩) 1 1] (Row1 w x) (Tells w (.tuple #[Pt (fb x), .int .i64 0])) :=
  (find_yes (h.no (Fr.alloc _ _)) (x := x) (xs := []) (by simp) (row1_at w hx) hc hf).mono (fun _ _ h => tells_of (Fr.alloc _ _) h)
theorem find2_yes (h : Dsk w d m O D fb sv s) {x y : Nm} (hx : x.length ≤ maxLen) (hy : y.length ≤ maxLen) (hc : checkI s [x, y] = 0) {f : Fl} (hf : find s.fs x = some f) :
    Calls Try.prog 59 #[Pt d, .slice (some ⟨w.heap.size, 0, none⟩) 2 2] (Row2 w x y) (Tells w (.tuple #[Pt (fb x), .int .i64 0])) :=
  (find_yes (h.no (Fr.alloc _ _)) (x := x) (xs := [y]) (by simp) (row2_at w hx hy) hc hf).mono (fun _ _ h => tells_of (Fr.alloc _ _) h)
theorem conv_none (w : World) : (convert 56 9 (.slice none 0 0)).run Try.prog w = .ok (St []) w := by kernel_rfl
theorem conv_row {v : Value} {n : Nat} {l : List UInt8} (h : w.ownsRow 0 5 1 v n (l.map byteV)) : (convert 56 9 v).run Try.prog w = .ok (St l) w := by
  have hl : n = l.length := by have := h.1; simp at this; omega
  subst hl
  rcases h.2 with ⟨rfl, h0⟩ | ⟨g, cap, cur, rfl, _⟩
  · have : l = [] := List.eq_nil_of_length_eq_zero h0
    subst this
    exact conv_none w
  · refine run_convert_bytes_back (P := Try.prog) w 56 9 5 ⟨g, 0, none⟩ cap l Try.underlying56 Try.underlying5 Try.underlying9 (fun j hj => ?_)
    have := h.cellAt j (by omega)
    have ha : (⟨g, 0, none⟩ : Go.Addr).add j = ⟨g, j, none⟩ := by cases j <;> simp [Addr.add]
    rw [ha, this, List.getElem?_map, List.getElem?_eq_getElem hj]
    rfl
set_option maxRecDepth 100000 in
theorem read_nil (x : Nm) (w : World) : Calls Try.prog 35 #[.pointer none, St x] w (Tells w (.tuple #[St [], .int .i64 2])) := by
  go_enter Try.func35, Try.ntmps35
  go_wp2_with (go_at_call 59; refine (find1_nil x w).mono ?_; rintro e w2 ⟨rfl, F⟩)
  go_ret2
  exact ⟨rfl, F⟩
set_option maxRecDepth 100000 in
theorem read_any (h : IsDsk w d O s) {x : Nm} (hx : x.length ≤ maxLen) : Calls Try.prog 35 #[Pt d, St x] w (Tells w (.tuple #[St (readD s x).1, .int .i64 (readD s x).2])) := by
  have bad : ∀ c, checkI s [x] = c → (c == 0) = false → readD s x = ([], c) → Calls Try.prog 35 #[Pt d, St x] w (Tells w (.tuple #[St (readD s x).1, .int .i64 (readD s x).2])) := fun c h1 h2 h3 => by
    rw [h3]
    have C := hide (find1_bad h hx h1 h2)
    have h4 : ¬ c = 0 := by simpa using h2
    clear h h1 h2 h3 hx
    go_enter Try.func35, Try.ntmps35
    go_wp2_with (go_at_call 59; refine C.out.mono ?_; rintro e w2 ⟨rfl, F⟩)
    go_ret2
    exact ⟨rfl, F⟩
  rcases chk1 s x with ⟨h1, h2⟩ | ⟨h1, h2, h3⟩ | ⟨h1, h2, h3⟩
  · exact bad 60 h2 rfl (by unfold readD; rw [h1]; rfl)
  · exact bad 61 h3 rfl (by unfold readD; rw [h1, h2]; rfl)
  · clear bad
    obtain ⟨m, D, fb, sv, h⟩ := h
    cases hf : find s.fs x with
    | none =>
      have E : readD s x = ([], 62) := by unfold readD; rw [h1, h2, hf]; rfl
      have C := hide (find1_none h hx h3 hf)
      rw [E]
      clear h h1 h2 h3 hx hf E
      go_enter Try.func35, Try.ntmps35
      go_wp2_with (go_at_call 59; refine C.out.mono ?_; rintro e w2 ⟨rfl, F⟩)
      go_ret2
      exact ⟨rfl, F⟩
    | some f =>
      have E : readD s x = (f.data, 0) := by unfold readD; rw [h1, h2, hf]; rfl
      have C := hide (find1_yes h hx h3 hf)
      have HF := hide (h.file x f hf).2
      rw [E]
      clear h h1 h2 h3 hx hf E
      go_enter Try.func35, Try.ntmps35
      go_wp2_with (go_at_call 59; refine C.out.mono ?_; rintro e w2 ⟨rfl, F⟩; have HF2 := (HF.out.fr F (fun e => e) (fun _ _ e => e)); have c0 := cell_at HF2.1 0; simp at c0; have CV := conv_row HF2.2; clear HF2)
      go_ret2
      exact ⟨rfl, F⟩
end Go.Proofs.Ytnaedngbcndakaa
