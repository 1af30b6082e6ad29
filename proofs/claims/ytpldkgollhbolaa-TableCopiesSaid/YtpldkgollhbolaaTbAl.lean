/-
  The contracts of a table's All, Client and Meets. Conditions: the words are words of 64 bits, a text is no longer than an int (every value of the types is such).
-/
import Derived.Test.YtpldkgollhbolaaTbTh
namespace Go.Proofs.Ytpldkgollhbolaa
open Go.RowKit Go.Joins Go.Maps

variable {w w' V W W' : World} {t km om : Nat} {O : Nat → Prop} {v : Value} {E : List En} {L : List Ls}
theorem ResL.older {R : List Ls} (h : ResL V W v R) (hs : w.heap.size ≤ V.heap.size) : ResL w W v R := by
  obtain ⟨p, cap, e, h⟩ := h
  refine ⟨p, cap, e, ?_⟩
  rcases h with h | ⟨g, e2, h1, h2, h3⟩
  · exact Or.inl h
  · exact Or.inr ⟨g, e2, Nat.le_trans hs h1, h2, h3⟩
theorem all1_any (x : Ls) (w : World) : Calls Try.prog 26 #[Lv x] w (Gives (.bool true) w) := by
  go_enter Try.func26, Try.ntmps26
  go_wp2
  go_ret
  exact ⟨rfl, below_alloc _ _⟩
theorem all_any (h : IsTab w t O L) : Calls Try.prog 9 #[Pt t] w (LsPost w L) := by
  have T := those_any h (fun _ => true) (f := 26) (cb := #[]) (enters_of Try.func26 (by kernel_rfl) rfl) (fun W x _ _ => all1_any x W)
  rw [show L.filter (fun _ => true) = L from List.filter_eq_self.2 (fun _ _ => rfl)] at T
  have HT := hide T
  clear T h
  go_enter Try.func9, Try.ntmps9
  go_wp2_with fail
  refine HT.out.mono ?_
  rintro e w2 ⟨v, rfl, hr, hb⟩
  have HR := hide hr
  clear hr
  go_wp2
  go_ret
  exact ⟨v, rfl, HR.out, hb⟩
def clientB (c : ByteArray) (x : Ls) : Bool := decide (x.st = 1 ∧ x.cl = c)
theorem bytes_ne {a b : ByteArray} : (a.toList == b.toList) = decide (a = b) := by
  rw [Bool.eq_iff_iff, beq_iff_eq, decide_eq_true_iff, ByteArray.toList_eq, ByteArray.toList_eq]
  exact ⟨fun h => ByteArray.ext (Array.toList_inj.1 h), fun h => by rw [h]⟩
theorem client1_any (x : Ls) (c : ByteArray) (b : Nat) (hb : w.cell? ⟨b, 0, none⟩ = some (.string c)) (hlt : b < w.heap.size) : Calls Try.prog 34 #[Lv x, Pt b] w (Gives (.bool (clientB c x)) w) := by
  by_cases h1 : x.st = 1
  · have hs : (x.st == 1) = true := by rw [h1]; rfl
    have e := bytes_ne (a := x.cl) (b := c)
    have R : Hid (∀ r W, decide (x.cl = c) = r → Below w.heap.size w W → Gives (.bool (clientB c x)) w (.returned (.bool r)) W) := hide (fun r W hr hB => ⟨by rw [← hr]; unfold clientB; congr 2; simp [h1], hB⟩)
    generalize decide (x.cl = c) = r at *
    clear h1
    go_enter Try.func34, Try.ntmps34
    go_wp2
    go_ret
    exact R.out _ _ rfl (below_alloc _ _)
  · have hs : (x.st == 1) = false := by rw [beq_eq_false_iff_ne]; exact h1
    have R : Hid (∀ W, Below w.heap.size w W → Gives (.bool (clientB c x)) w (.returned (.bool false)) W) := hide (fun W hB => ⟨by unfold clientB; rw [decide_eq_false (fun h => h1 h.1)], hB⟩)
    clear h1
    go_enter Try.func34, Try.ntmps34
    go_wp2
    go_ret
    exact R.out _ (below_alloc _ _)
theorem client_any (h : IsTab w t O L) (c : ByteArray) : Calls Try.prog 17 #[Pt t, .string c] w (LsPost w (L.filter (clientB c))) := by
  have B0 := below_alloc w (.cells #[.string c] 9)
  have X0 : (w.alloc (.cells #[.string c] 9)).heap[w.heap.size]? = some (.cells #[.string c] 9 (0, 0)) := heap_alloc_new w _
  have T := those_any (h.below B0) (clientB c) (f := 34) (cb := #[Pt w.heap.size]) (enters_of Try.func34 (by kernel_rfl) rfl)
    (fun W x hb _ => client1_any x c w.heap.size (keep_cell hb (cell_at X0 0)) (Nat.lt_of_lt_of_le (lt_of_block X0) hb.size))
  have HT := hide T
  have HB := hide B0
  clear T h B0 X0
  go_enter Try.func17, Try.ntmps17
  go_wp2_with fail
  refine HT.out.mono ?_
  rintro e w2 ⟨v, rfl, hr, hb⟩
  have HR := hide hr
  clear hr
  go_wp2
  go_ret
  exact ⟨v, rfl, HR.out.older HB.out.size, chain HB.out hb⟩
def meetsB (k : Int) (p : Nat) (n : Int) (x : Ls) : Bool := meetS k p n x.kind x.p x.n
theorem meets1_any (x : Ls) {k : Int} {p : Nat} {n : Int} (a b : Nat) (ha : w.cell? ⟨a, 0, none⟩ = some (.int .i64 k)) (hb0 : w.cell? ⟨b, 0, none⟩ = some (.int .u64 (hi p : Nat))) (hb1 : w.cell? ⟨b, 1, none⟩ = some (.int .u64 (lo p : Nat))) (hb2 : w.cell? ⟨b, 2, none⟩ = some (.int .i64 n))
    (hla : a < w.heap.size) (hlb : b < w.heap.size) (hp : Fits p) (hx : Fits x.p) : Calls Try.prog 33 #[Lv x, Pt a, Pt b] w (Gives (.bool (meetsB k p n x)) w) := by
  have MT := hide (fun W => meet_any k hp n x.kind hx x.n W)
  have R : Hid (∀ W, Below w.heap.size w W → Gives (.bool (meetsB k p n x)) w (.returned (.bool (meetS k p n x.kind x.p x.n))) W) := hide (fun W h => ⟨rfl, h⟩)
  generalize meetsB k p n x = res at *
  generalize meetS k p n x.kind x.p x.n = ms at *
  clear hp hx
  go_enter Try.func33, Try.ntmps33
  go_wp2_with fail
  refine (MT.out _).mono ?_
  rintro e w2 ⟨rfl, hb⟩
  go_wp2
  go_ret
  exact R.out _ (chain (below_alloc _ _) hb)
theorem meets_any2 (h : IsTab w t O L) (k : Int) {p : Nat} (hp : Fits p) (n : Int) : Calls Try.prog 16 #[Pt t, .int .i64 k, Pv p n] w (LsPost w (L.filter (meetsB k p n))) := by
  have B0 := below_alloc w (.cells #[.int .i64 k] 3)
  have B1 := below_alloc (w.alloc (.cells #[.int .i64 k] 3)) (.cells #[.int .u64 (hi p : Nat), .int .u64 (lo p : Nat), .int .i64 n] 33)
  have X0 : ((w.alloc (.cells #[.int .i64 k] 3)).alloc (.cells #[.int .u64 (hi p : Nat), .int .u64 (lo p : Nat), .int .i64 n] 33)).heap[w.heap.size]? = some (.cells #[.int .i64 k] 3 (0, 0)) := (Fr.ofBelow B1).keep (heap_alloc_new w _) (fun e => e)
  have X1 : ((w.alloc (.cells #[.int .i64 k] 3)).alloc (.cells #[.int .u64 (hi p : Nat), .int .u64 (lo p : Nat), .int .i64 n] 33)).heap[w.heap.size + 1]? = some (.cells #[.int .u64 (hi p : Nat), .int .u64 (lo p : Nat), .int .i64 n] 33 (0, 0)) := alloc_at _ (by simp)
  have T := those_any (h.below (chain B0 B1)) (meetsB k p n) (f := 33) (cb := #[Pt w.heap.size, Pt (w.heap.size + 1)]) (enters_of Try.func33 (by kernel_rfl) rfl)
    (fun W x hb hx => meets1_any x w.heap.size (w.heap.size + 1) (keep_cell hb (cell_at X0 0)) (keep_cell hb (cell_at X1 0)) (keep_cell hb (cell_at X1 1)) (keep_cell hb (cell_at X1 2)) (Nat.lt_of_lt_of_le (lt_of_block X0) hb.size) (Nat.lt_of_lt_of_le (lt_of_block X1) hb.size) hp hx.p)
  have HT := hide T
  have HB := hide (chain B0 B1)
  clear T h B0 X0 B1 X1 hp
  go_enter Try.func16, Try.ntmps16
  go_wp2_with fail
  refine HT.out.mono ?_
  rintro e w2 ⟨v, rfl, hr, hb⟩
  have HR := hide hr
  clear hr
  go_wp2
  go_ret
  exact ⟨v, rfl, HR.out.older HB.out.size, chain HB.out hb⟩
end Go.Proofs.Ytpldkgollhbolaa
