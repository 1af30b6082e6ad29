/-
  The contracts of the document's own power, Off, put, take. Conditions: an int is one of 64 bits; fewer than 2^62 operations have been answered OK.
-/
import Derived.Test.YtnaedngbcndakaaFilRd
namespace Go.Proofs.Ytnaedngbcndakaa
open Go.RowKit Go.Maps

variable {w w' w1 w2 w3 : World} {t : Nat} {v : Value} {O : Nat → Prop} {s s' : Dk} {l : List Fl}
set_option maxRecDepth 100000 in
theorem roff_any (h : RefAt w t v O s) {keep : Int} (hk : I64 keep) : Calls Try.prog 24 #[Pt t, .int .i64 keep] w (ActsR w t O (.tuple #[]) (offC s keep)) := by
  obtain ⟨k0, k1, _⟩ := h.cs
  have H := hide h
  have G := hide (goes_any h hk)
  clear h
  cases hdn : s.down with
  | true =>
    have E := hide (show offC s keep = s by unfold offC; rw [hdn]; rfl)
    rw [hdn] at k1
    clear hdn
    go_enter Try.func24, Try.ntmps24
    go_wp2
    go_end0
    exact ⟨rfl, Fr.refl _ _, IsRef.acts ⟨v, H.out⟩ (Fr.refl _ _) (by rw [E.out]; exact ⟨v, H.out⟩)⟩
  | false =>
    have E := hide (show offC s keep = offD s keep by unfold offC; rw [hdn]; rfl)
    rw [hdn] at k1
    clear hdn
    go_enter Try.func24, Try.ntmps24
    go_wp2_with (go_at_call 52; refine G.out.mono ?_; intro e w3 K; obtain rfl := K.1)
    go_end0
    exact ⟨rfl, by rw [E.out]; exact K.2⟩
theorem roff_nil (keep : Int) (w : World) : Calls Try.prog 24 #[.pointer none, .int .i64 keep] w (Same (.tuple #[]) w) := by
  go_enter Try.func24, Try.ntmps24
  go_wp2
  go_end0
  exact ⟨rfl, rfl⟩
set_option maxRecDepth 100000 in
theorem power_off (h : RefAt w t v O s) (h0 : s.left = 0) : Calls Try.prog 58 #[Pt t] w (ActsR w t O (.bool false) (offD s s.keep)) := by
  obtain ⟨k0, k1, k2, k3, _⟩ := h.cs
  have G := hide (goes_any h h.ok.keep)
  rw [h0] at k2
  clear h h0
  go_enter Try.func58, Try.ntmps58
  go_wp2_with (go_at_call 52; refine G.out.mono ?_; intro e w3 K; obtain rfl := K.1)
  go_ret
  exact ⟨rfl, K.2⟩
/-- a step of the document's own disk that is done -/
def GoesR (w : World) (t : Nat) (v : Value) (O : Nat → Prop) (s' : Dk) (e : Ending) (w' : World) : Prop := e = .returned (.bool true) ∧ Fr (fun i => i = t) w w' ∧ RefAt w' t v O s'
set_option maxRecDepth 100000 in
theorem power_go (h : RefAt w t v O s) (h0 : (s.left == 0) = false) (hst : s.steps < 4611686018427387904) : Calls Try.prog 58 #[Pt t] w (GoesR w t v O (tick s)) := by
  have H := hide h
  have h0 : ¬ s.left = 0 := by simpa using h0
  obtain ⟨k0, k1, k2, k3, k4, kf⟩ := h.cs
  have f2 := kf 2
  have f4 := kf 4
  have hlo := h.ok.left
  have tok := H.out.ok.tick
  clear h kf
  by_cases hp : 0 < s.left
  · have HT := hide (show (tick s).left = s.left - 1 from if_pos hp)
    go_enter Try.func58, Try.ntmps58
    go_wp2
    go_ret
    have Fst : Fr (fun i => i = t) w ((w.setCell ⟨t, 2, none⟩ (.int .i64 (s.left - 1))).setCell ⟨t, 4, none⟩ (.int .i64 ((s.steps : Int) + 1))) := (Fr.set w ⟨t, 2, none⟩ _).trans (Fr.set _ ⟨t, 4, none⟩ _) (fun i _ e => e)
    refine ⟨rfl, Fst, H.out.sets Fst (by simp) rfl tok ?_⟩
    rw [set_block (set_block H.out.cells 2 _) 4, HT.out]
    rfl
  · have HT := hide (show (tick s).left = s.left from if_neg hp)
    go_enter Try.func58, Try.ntmps58
    go_wp2
    go_ret
    have Fst : Fr (fun i => i = t) w (w.setCell ⟨t, 4, none⟩ (.int .i64 ((s.steps : Int) + 1))) := Fr.set w ⟨t, 4, none⟩ _
    refine ⟨rfl, Fst, H.out.sets Fst (by simp) rfl tok ?_⟩
    rw [set_block H.out.cells 4, HT.out]
    rfl
/-- what a file looks like as a value -/
abbrev FV (f : Fl) : Value := .agg #[St f.name, St f.data, .int .i64 (f.safe : Nat)]
theorem own_zero {base n size : Nat} {e : TypeId} {xs : List Value} (h : w.ownsRow base e size v n xs) : w.ownsRow 0 e size v n xs := ⟨h.1, h.2.imp id (fun ⟨g, cap, cur, h1, _, r⟩ => ⟨g, cap, cur, h1, Nat.zero_le _, r⟩)⟩
theorem alloc_new (W : World) (o : Obj) : (W.alloc o).heap[W.heap.size]? = some o := by
  show (W.heap.push o)[W.heap.size]? = some o
  simp
end Go.Proofs.Ytnaedngbcndakaa
