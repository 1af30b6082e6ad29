/-
  Contracts of Has, total, Count and Nth. Conditions: the words are words of 64 bits; a slice has at most 1000000 ranges.
-/
import Derived.Test.YtfmhpnendcikoaaGreatSpanQ
namespace Go.Proofs.YtfmhpnendcikoaaGreat
open Go.RowKit Go.Joins

def hasB (l : List Rg) (a : Nat) : Bool := soundL l && decide (fromS l a < toS l a)
/-- how many addresses a set has, up to a place, modulo 2^128 -/
def sizeR (x : Rg) : Nat := addS (subS x.2 x.1) 1
def totS (l : List Rg) (acc : Nat) : Nat := l.foldl (fun s x => addS s (sizeR x)) acc
theorem tot_cons (x : Rg) (r : List Rg) (acc : Nat) : totS (x :: r) acc = totS r (addS acc (sizeR x)) := by unfold totS; rw [List.foldl_cons]
theorem tot_nil (acc : Nat) : totS [] acc = acc := by unfold totS; rw [List.foldl_nil]
theorem tot_snoc (l : List Rg) (x : Rg) (acc : Nat) : totS (l ++ [x]) acc = addS (totS l acc) (sizeR x) := by
  induction l generalizing acc with
  | nil => rw [List.nil_append, tot_cons, tot_nil, tot_nil]
  | cons y r ih => rw [List.cons_append, tot_cons, tot_cons, ih]
theorem tot_take {l : List Rg} {k : Nat} {x : Rg} (h : l[k]? = some x) : totS (l.take (k + 1)) 0 = addS (totS (l.take k) 0) (sizeR x) := by
  rw [List.take_add_one, h]
  exact tot_snoc _ _ _
theorem fits_addS1 (a b : Nat) : Fits (addS a b) := by unfold addS Fits; omega
theorem fits_tot (l : List Rg) (acc : Nat) (h : Fits acc) : Fits (totS l acc) := by
  induction l generalizing acc with
  | nil => rw [tot_nil]; exact h
  | cons x r ih => rw [tot_cons]; exact ih _ (fits_addS1 _ _)

/-- the blocks of total -/
def HTt (w : World) (b o : Nat) (l : List Rg) (acc : Nat) (W : World) : Prop := Below w.heap.size w W ∧ Two w.heap.size 0 W ∧ Two (w.heap.size + 1) acc W ∧ RowR b o l W
theorem HTt.step {w : World} {b o : Nat} {l : List Rg} {acc : Nat} {W w2 : World} (h : HTt w b o l acc W) (hb : Below W.heap.size W w2) : HTt w b o l acc w2 := ⟨h.1.trans (hb.mono h.1.size), h.2.1.step hb, h.2.2.1.step hb, h.2.2.2.step hb⟩
theorem Two.put {g a : Nat} {W : World} (h : Two g a W) (y : Nat) : Two g y ((W.setCell ⟨g, 0, none⟩ (.int .u64 (hi y : Nat))).setCell ⟨g, 1, none⟩ (.int .u64 (lo y : Nat))) := by
  obtain ⟨h1, h2, h3, h4, h5⟩ := h
  refine ⟨by simp; exact h1, ?_, ?_, ?_, ?_⟩
  all_goals simp [go_sem, *]
theorem Two.set {g a : Nat} {W : World} (h : Two g a W) {p : Go.Addr} (hp : g ≠ p.block) (u : Value) : Two g a (W.setCell p u) := by
  have hb := Below.heap_setCell W p u g hp
  have c : ∀ o, (W.setCell p u).cell? ⟨g, o, none⟩ = W.cell? ⟨g, o, none⟩ := fun o => World.cell?_of_block (w := W) hb
  have f : ∀ o, (W.setCell p u).frozen? ⟨g, o, none⟩ = W.frozen? ⟨g, o, none⟩ := fun o => World.frozen?_of_block (w := W) hb
  unfold Two
  rw [c, c, f, f]
  exact ⟨by simp; exact h.1, h.2⟩
theorem RowR.set {b o : Nat} {l : List Rg} {W : World} (h : RowR b o l W) {p : Go.Addr} (hp : b ≠ p.block) (u : Value) : RowR b o l (W.setCell p u) := by
  have hb := Below.heap_setCell W p u b hp
  have c : ∀ o, (W.setCell p u).cell? ⟨b, o, none⟩ = W.cell? ⟨b, o, none⟩ := fun o => World.cell?_of_block (w := W) hb
  refine ⟨by simp; exact h.1, fun j x hj => ?_⟩
  unfold At
  rw [c, c, c, c]
  exact h.2 j x hj
theorem HTt.put {w : World} {b o : Nat} {l : List Rg} {acc : Nat} {W : World} (hbw : b < w.heap.size) (h : HTt w b o l acc W) (y : Nat) : HTt w b o l y ((W.setCell ⟨w.heap.size + 1, 0, none⟩ (.int .u64 (hi y : Nat))).setCell ⟨w.heap.size + 1, 1, none⟩ (.int .u64 (lo y : Nat))) :=
  ⟨(h.1.setCell (by dsimp only; omega) _).setCell (by dsimp only; omega) _, (h.2.1.set (by dsimp only; omega) _).set (by dsimp only; omega) _, h.2.2.1.put y, (h.2.2.2.set (by dsimp only; omega) _).set (by dsimp only; omega) _⟩
theorem htt_new (w : World) {b o : Nat} {l : List Rg} (hr : RowR b o l w) : HTt w b o l 0 ((w.alloc (.cells #[.int .u64 0, .int .u64 0] 31)).alloc (.cells #[.int .u64 0, .int .u64 0] 31)) := by
  have h := two_zero w 31
  generalize hV : w.alloc (.cells #[.int .u64 0, .int .u64 0] 31) = V at h
  have hb : Below w.heap.size w V := hV ▸ below_alloc _ _
  have hs : V.heap.size = w.heap.size + 1 := by rw [← hV]; simp
  have h2 := two_zero V 31
  rw [hs] at h2
  exact ⟨chain hb (below_alloc _ _), h.step (below_alloc _ _), h2, (hr.step hb).step (below_alloc _ _)⟩

set_option maxRecDepth 100000 in
set_option maxHeartbeats 400000 in
theorem total_some {b o c : Nat} {l : List Rg} (hf : FitL l) (hl : l.length ≤ 1000000) (w : World) (hr : RowR b o l w) :
    Calls Tryz.prog 46 #[.slice (some ⟨b, o, none⟩) l.length c] w (Gives (A (totS l 0)) w) := by
  have H0 := htt_new w hr
  have bl := hr.1
  go_enter Tryz.func46, Tryz.ntmps46
  go_wp2
  go_loopw [11] (fun i wr => ∃ k : Nat, k ≤ l.length ∧ i = .int .i64 (k : Nat) ∧ HTt w b o l (totS (l.take k) 0) wr) (fun i _ => l.length - (intOf i).toNat)
  case atStart => exact ⟨0, Nat.zero_le _, rfl, H0⟩
  case round =>
    obtain ⟨k, hk, rfl, HH⟩ := hrel
    clear H0
    have facc : Fits (totS (l.take k) 0) := fits_tot _ _ (by unfold Fits; decide)
    by_cases hlt : k < l.length
    · obtain ⟨x, hx⟩ := get_some hlt
      have fx := fit_at hf hx
      have TK := hide (tot_take hx)
      have ST := hide (fun W => steps_any fx W)
      have NX := hide (fun W => next_any (fits_subS x.2 x.1) W)
      have AD := hide (fun W => add_any facc (fits_addS1 (subS x.2 x.1) 1) W)
      obtain ⟨x1, x2, x3, x4⟩ := HH.2.2.2.2 k x hx
      clear hx
      generalize totS (l.take k) 0 = acc at *
      go_wp2_with fail
      clear x1 x2 x3 x4
      have H1 := HH.step (below_alloc _ (.cells #[.int .u64 (hi x.1 : Nat), .int .u64 (lo x.1 : Nat), .int .u64 (hi x.2 : Nat), .int .u64 (lo x.2 : Nat)] 36))
      refine (ST.out _).mono ?_
      rintro e w1 ⟨rfl, hb1⟩
      have H2 := H1.step hb1
      clear hb1 H1 HH
      go_wp2_with fail
      refine (NX.out _).mono ?_
      rintro e w2 ⟨rfl, hb2⟩
      have H3 := H2.step hb2
      clear hb2 H2
      have H4 := H3.step (below_alloc _ (.cells #[.int .u64 (hi (addS (subS x.2 x.1) 1) : Nat), .int .u64 (lo (addS (subS x.2 x.1) 1) : Nat)] 31))
      obtain ⟨_, _, ⟨t0, t1, t2, t3, t4⟩, _⟩ := id H3
      go_wp2_with fail
      clear t0 t1 t2 t3 t4
      refine (AD.out _).mono ?_
      rintro e w3 ⟨rfl, hb3⟩
      have H5 := H4.step hb3
      clear hb3 H4 H3
      obtain ⟨_, _, ⟨t0, t1, t2, t3, t4⟩, _⟩ := id H5
      go_wp2
      go_roundw
      case rel => exact ⟨k + 1, hlt, by go_num, by rw [TK.out]; exact H5.put bl _⟩
      case measure => simp [intOf]; omega
    · have e : l.take k = l := List.take_of_length_le (by omega)
      rw [e] at HH
      obtain ⟨HB, ⟨z0, z1, z2, z3, z4⟩, ⟨t0, t1, t2, t3, t4⟩, _⟩ := id HH
      go_wp2
      refine bodyPost_ret (v := A (totS l 0)) (by simp [results, Tryz.results46, go_sem, z1, z2]) rfl ⟨rfl, ?_⟩
      have hzB := HB.size
      repeat' (first | (with_reducible exact HB) | (with_reducible apply Below.drew) | (with_reducible apply Below.alloc) | (with_reducible apply Below.setCell))
      all_goals first | omega | (dsimp only; omega) | ((try simp); omega)
end Go.Proofs.YtfmhpnendcikoaaGreat
