/-
  The library's sort of a row of leases: the same leases, in order. Condition: the order is a strict weak one; what compares makes new memory and draws, nothing else.
-/
import Derived.Test.YtpldkgollhbolaaTbSo
namespace Go.Proofs.Ytpldkgollhbolaa
open Go.RowKit Go.Joins Go.Maps

instance : Inhabited Ls := ⟨zLs⟩
variable {w w' V W W' : World}
abbrev HoldsL (W : World) (g : Nat) (F : List Ls) : Prop := Go.Sort.HoldsK wdL 8 W g 0 F.toArray
theorem sort_fr (w : World) (g n : Nat) (d : Array Ls) (os : Array Obj) : Fr (fun k => k = g) w (Go.Proofs.sortWorldK wdL 8 w g 0 n d os) := by
  unfold Go.Proofs.sortWorldK Go.Sort.putRowK
  refine ⟨rfl, rfl, rfl, by simp [Go.Sort.ahead], fun k hk hn => ?_⟩
  have h1 : (Go.Sort.putRow id (Go.Sort.ahead w n) g 0 (Go.Sort.flatK wdL 8 d)).heap[k]? = w.heap[k]? := by
    unfold Go.Sort.putRow Go.Sort.mapBlock Go.Sort.ahead
    show (w.heap.modify g _)[k]? = _
    rw [Array.getElem?_modify, if_neg (fun e => hn e.symm)]
  unfold Go.Sort.grow
  show ((Go.Sort.putRow id (Go.Sort.ahead w n) g 0 (Go.Sort.flatK wdL 8 d)).heap ++ os)[k]? = _
  rw [Array.getElem?_append, if_pos (by rw [Go.Sort.size_putRow]; exact hk), h1]
theorem holds_block {g : Nat} {F : List Ls} (h : HoldsL W g F) {i : Nat} {x : Ls} (hx : F[i]? = some x) (c : Nat) (hc : c < 8) : W.cell? ⟨g, i * 8 + c, none⟩ = (wdL x)[c]? ∧ W.frozen? ⟨g, i * 8 + c, none⟩ = false := by
  obtain ⟨hi, rfl⟩ := List.getElem?_eq_some_iff.1 hx
  have := Go.Sort.HoldsK.cell h (i := i) (c := c) (by simpa using hi) hc
  rw [Nat.zero_add] at this
  refine ⟨?_, this.2⟩
  rw [this.1]
  have e : F.toArray[i]! = F[i] := by simp [hi]
  rw [e]
  have hl : (wdL F[i]).length = 8 := rfl
  rw [List.getElem?_eq_getElem (by omega)]
  simp [hc, hl]
theorem sort_any {f : Nat} {cf : Ls → Ls → Int} (eg : ∀ args w, (callFunc f args).run Try.prog w = .ok (.enter f args) w) (hc : ∀ x y W, Calls Try.prog f #[Lv x, Lv y] W (GivesG (.int .i64 (cf x y)) W)) (hO : Go.Sort.SWO (Go.Proofs.ltOf cf))
    {g cap : Nat} {F : List Ls} (hH : HoldsL w g F) (hg : g < w.heap.size) (hF : F.length ≤ 2000) :
    Calls Try.prog 36 #[.slice (some ⟨g, 0, none⟩) F.length cap, .func (.func f) #[] #[]] w fun e w' =>
      e = .returned (.tuple #[]) ∧ ∃ R, R.Perm F ∧ R.Pairwise (fun x y => Go.Proofs.ltOf cf y x = false) ∧ HoldsL w' g R ∧ Fr (fun k => k = g) w w' := by
  have hcmp : Go.Proofs.CmpLays Try.prog f #[] wdL 8 cf g 0 F.toArray.size w := fun m os dk _ x y => (hc x y _).mono fun e w' ⟨he, hg⟩ => ⟨he, hg.grow⟩
  have h := AnyQ.slices_SortFunc Try.sortL 8 Try.isAgg36 Try.sizeOf36 wdL (fun _ => rfl) (fun x v hv => by simp [wdL] at hv; rcases hv with rfl | rfl | rfl | rfl | rfl | rfl | rfl | rfl <;> rfl) cf hO f #[] g 0 cap F.toArray w eg hcmp hH hg (by simp; omega)
  change Calls Try.prog 36 _ _ _ at h
  rw [List.size_toArray] at h
  refine h.mono fun e w' ⟨he, d', n, os, hp, hs, hw⟩ => ⟨he, d'.toList, ?_, ?_, ?_, ?_⟩
  · obtain ⟨h1, h2, h3⟩ := hp
    have a : d'.extract 0 F.length = d' := by rw [Array.extract_eq_self_of_le]; simp at h1; omega
    have b : F.toArray.extract 0 F.length = F.toArray := by rw [Array.extract_eq_self_of_le]; simp
    rw [a, b] at h3
    simpa using h3
  · rw [List.pairwise_iff_getElem]
    intro i j hi hj hij
    have h1 := hp.1
    simp at hi hj h1
    have := hs i j (Nat.zero_le _) hij (by omega)
    rw [getElem!_pos d' j (by omega), getElem!_pos d' i (by omega)] at this
    simpa using this
  · rw [hw]
    have := Go.Proofs.holdsK_sortWorldK_c (enc := wdL) (k := 8) (w := w) (blk := g) (off := 0) F.toArray d' n os hH hg hp.1
    simpa [HoldsL] using this
  · rw [hw]; exact sort_fr w g n d' os
theorem sort_none (f : Nat) (p : Option Go.Addr) (cap : Nat) (w : World) : Calls Try.prog 36 #[.slice p 0 cap, .func (.func f) #[] #[]] w (Same (.tuple #[]) w) := by
  have h := AnyF.slices_SortFunc_none { Try.sortL with } p cap (.func (.func f) #[] #[]) w
  change Calls Try.prog 36 _ _ _ at h
  exact h.mono fun e w' ⟨he, hw⟩ => ⟨he, hw.symm⟩
end Go.Proofs.Ytpldkgollhbolaa
