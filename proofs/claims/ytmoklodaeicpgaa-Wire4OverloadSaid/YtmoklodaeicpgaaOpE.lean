/-
  The contract of appendOption. Conditions: the area takes at most 2^46 bytes; an option's data are at most 4096 bytes.
-/
import Derived.Test.YtmoklodaeicpgaaOpH
import Derived.Deep.DeepCutAuto
namespace Go.Proofs.Ytmoklodaeicpgaa
open Go.RowKit Go.Joins Go.Maps

/-- a call that makes a row of bytes out of its own -/
def MakesB (base : Nat) (l : List UInt8) (w : World) (e : Ending) (w2 : World) : Prop := ∃ v, e = .returned v ∧ Below base w w2 ∧ OwnB w2 base v l
theorem ownB_keep {W W2 : World} {base : Nat} {v : Value} {l : List UInt8} (h : OwnB W base v l) (hb : Below W.heap.size W W2) : OwnB W2 base v l := own_keep h hb
/-- two new bytes in memory -/
theorem cell_two_new (w : World) (a b : UInt8) (t : TypeId) : ∀ j u, (cellsB [a, b])[j]? = some u → (w.alloc (.cells #[.int .u8 (a.toNat : Int), .int .u8 (b.toNat : Int)] t)).cell? ((⟨w.heap.size, 0, none⟩ : Go.Addr).add j) = some u := by
  intro j u hj
  rw [add_at, Nat.zero_add]
  match j, hj with
  | 0, hj => simp [cellsB, byteV] at hj; subst hj; simp [go_sem]
  | 1, hj => simp [cellsB, byteV] at hj; subst hj; simp [go_sem]
  | j + 2, hj => simp [cellsB] at hj
theorem cell_two_num (w : World) (a : UInt8) {n : Nat} (hn : n ≤ 255) (t : TypeId) : ∀ j u, (cellsB [a, UInt8.ofNat n])[j]? = some u → (w.alloc (.cells #[.int .u8 (a.toNat : Int), .int .u8 (n : Int)] t)).cell? ((⟨w.heap.size, 0, none⟩ : Go.Addr).add j) = some u := by
  have h := cell_two_new w a (UInt8.ofNat n) t
  have e : (UInt8.ofNat n).toNat = n := by rw [UInt8.toNat_ofNat']; omega
  rw [e] at h
  exact h
/-- an option's box -/
def BoxO (b : Nat) (x : Opt) (W : World) : Prop := ∃ t, t ≠ 5 ∧ W.heap[b]? = some (.cells #[.int .u8 (x.1.toNat : Int), .string x.2] t (0, 0))
theorem BoxO.grown {b : Nat} {x : Opt} {W W2 : World} {base : Nat} {v : Value} {l : List UInt8} (h : BoxO b x W) (hv : OwnB W base v l) (hg : W.grownBy W2 v.ownBlock) : BoxO b x W2 := by
  obtain ⟨t, ht, h⟩ := h
  refine ⟨t, ht, (hg.block b (lt_of_block h) (fun e => ?_)).trans h⟩
  obtain ⟨cur, hc⟩ := own_heap hv e.symm
  rw [h] at hc
  injection hc with hc
  injection hc with _ hc _
  exact ht hc
theorem BoxO.step {b : Nat} {x : Opt} {W W2 : World} (h : BoxO b x W) (hb : Below W.heap.size W W2) : BoxO b x W2 := by
  obtain ⟨t, ht, h⟩ := h
  exact ⟨t, ht, (hb.block b (lt_of_block h)).trans h⟩
theorem BoxO.at {b : Nat} {x : Opt} {W : World} (h : BoxO b x W) : W.cell? ⟨b, 0, none⟩ = some (.int .u8 (x.1.toNat : Int)) ∧ W.cell? ⟨b, 1, none⟩ = some (.string x.2) := by
  obtain ⟨t, ht, h⟩ := h
  exact ⟨cell_at h 0, cell_at h 1⟩
theorem BoxO.new (w : World) (x : Opt) : BoxO w.heap.size x (w.alloc (.cells #[.int .u8 (x.1.toNat : Int), .string x.2] 47)) := ⟨47, by decide, heap_alloc_new w _⟩
theorem below_grown {W W2 : World} {base : Nat} {v : Value} {l : List UInt8} (hb : base ≤ W.heap.size) (hv : OwnB W base v l) (hg : W.grownBy W2 v.ownBlock) : Below base W W2 := (Below.refl _ _).grown hg hb (fun j hj => (hv.lt j hj).1)
theorem size_of_bytes (d : ByteArray) (k : Nat) (h : k ≤ d.size) : lb (d.extract k d.size) = (lb d).drop k := by
  have := sub_list d k (d.size - k)
  unfold sub at this
  rw [show k + (d.size - k) = d.size by omega] at this
  show (d.extract k d.size).data.toList = _
  rw [this]
  exact List.take_of_length_le (by rw [List.length_drop]; show d.data.toList.length - k ≤ _; rw [Array.length_toList]; exact Nat.le_refl _)
theorem head_of_bytes (d : ByteArray) (k : Nat) : lb (d.extract 0 k) = (lb d).take k := by
  have := sub_list d 0 k
  unfold sub at this
  rw [Nat.zero_add] at this
  exact this
set_option maxRecDepth 100000 in
set_option maxHeartbeats 2000000 in
theorem appendOption_any (x : Opt) (hx : x.2.size ≤ 4096) {base : Nat} {v : Value} {l : List UInt8} (hl : l.length ≤ 70368744177664) (w : World) (hO : OwnB w base v l) (hb0 : base ≤ w.heap.size) :
    Calls Try.prog 39 #[v, OV x] w (MakesB base (l ++ pieces x.1 (lb x.2)) w) := by
  have O0 := own_keep hO (below_alloc w (.cells #[.int .u8 (x.1.toNat : Int), .string x.2] 47))
  have X0 := BoxO.new w x
  have B0 := (below_alloc w (.cells #[.int .u8 (x.1.toNat : Int), .string x.2] 47)).mono hb0
  clear hO
  go_enter Try.func39, Try.ntmps39
  go_wp2
  generalize w.alloc (.cells #[.int .u8 (x.1.toNat : Int), .string x.2] 47) = W0 at *
  go_loopw [0, 5] (fun va vr wr => ∃ (l2 : List UInt8) (d : ByteArray), vr = .string d ∧ d.size ≤ 4096 ∧ l2.length + 2 * d.size ≤ 70368744185856 ∧ Hid (l2 ++ pieces x.1 (lb d) = l ++ pieces x.1 (lb x.2)) ∧ OwnB wr base va l2 ∧ Below base w wr ∧ base ≤ wr.heap.size ∧ BoxO w.heap.size x wr) (fun _ vr _ => match vr with | .string d => d.size | _ => 0)
  case atStart => exact ⟨l, x.2, rfl, hx, by omega, hide rfl, O0, B0, Nat.le_trans hb0 B0.size, X0⟩
  case round =>
    obtain ⟨l2, d, rfl, hd, hl2, HE, HO, HB, hbw, HX⟩ := hrel
    clear O0 B0 X0
    have HX2 := hide HX
    have HO2 := hide HO
    have HB2 := hide HB
    obtain ⟨x1, x2⟩ := HX.at
    clear HX HO HB
    by_cases h255 : 255 < d.size
    · have P1 : (255 : Int) < (d.size : Int) := by omega
      have ES := hide (show lb (d.extract 255 d.size) = (lb d).drop 255 from size_of_bytes d 255 (by omega))
      have EH := hide (show lb (d.extract 0 255) = (lb d).take 255 from head_of_bytes d 255)
      have EP := hide (pieces_more (c := x.1) (d := lb d) (by rw [lb_len]; exact h255))
      have ez : (d.extract 0 255).size = 255 := by simp; omega
      have er : (d.extract 255 d.size).size = d.size - 255 := by simp
      go_wp2_with (at_builtin; first | (refine wpList_append_bytes rfl (.tmp 11) (.tmp 14) rfl base _ l2 rfl (own_keep HO2.out (below_alloc _ _)) wr.heap.size 2 [x.1, 255] rfl (cell_two_new _ _ _ _) (by simp) (by simp; omega) (Nat.le_trans hbw (below_alloc _ _).size) ?_; intro v3 w3 q1 q2 q3) | (refine wpList_append_B rfl (.tmp 16) (.tmp 18) rfl base _ (l2 ++ [x.1, 255]) rfl q1 (d.extract 0 255) rfl (by rw [ez]; simp; omega) (Nat.le_trans hbw (Nat.le_trans (below_alloc _ _).size q2.size)) ?_; intro v4 w4 q4 q5 q6))
      have c1 := (below_alloc wr (.cells #[.int .u8 (x.1.toNat : Int), .int .u8 255] 5)).mono hbw
      have hO1 := own_keep HO2.out (below_alloc wr (.cells #[.int .u8 (x.1.toNat : Int), .int .u8 255] 5))
      have hX1 := HX2.out.step (below_alloc wr (.cells #[.int .u8 (x.1.toNat : Int), .int .u8 255] 5))
      have b1 := Nat.le_trans hbw c1.size
      have c2 := below_grown b1 hO1 q2
      have b2 := Nat.le_trans b1 c2.size
      have c3 := below_grown b2 q1 q5
      refine ⟨⟨_, _, rfl, by omega, ?_, hide ?_, q4, HB2.out.trans (c1.trans (c2.trans c3)), Nat.le_trans b2 c3.size, (hX1.grown hO1 q2).grown q1 q5⟩, ?_⟩
      · rw [List.length_append, List.length_append, lb_len, ez, er]
        simp only [List.length_cons, List.length_nil]
        omega
      · rw [ES.out, EH.out, ← HE.out, EP.out]
        simp [List.append_assoc]
      · show (d.extract 255 d.size).size < d.size
        omega
    · have P1 : ¬ (255 : Int) < (d.size : Int) := by omega
      have WR : IntKind.u8.wrap (d.size : Int) = (d.size : Int) := by rw [IntKind.wrap_u8]; omega
      have EP := hide (pieces_last (c := x.1) (d := lb d) (by rw [lb_len]; exact h255))
      rw [lb_len] at EP
      go_wp2_with (at_builtin; first | (refine wpList_append_bytes rfl (.tmp 22) (.tmp 28) rfl base _ l2 rfl (own_keep HO2.out (below_alloc _ _)) wr.heap.size 2 [x.1, UInt8.ofNat d.size] rfl (cell_two_num _ _ (by omega) _) (by simp) (by simp; omega) (Nat.le_trans hbw (below_alloc _ _).size) ?_; intro v3 w3 q1 q2 q3) | (refine wpList_append_B rfl (.tmp 30) (.tmp 31) rfl base _ (l2 ++ [x.1, UInt8.ofNat d.size]) rfl q1 d rfl (by simp; omega) (Nat.le_trans hbw (Nat.le_trans (below_alloc _ _).size q2.size)) ?_; intro v4 w4 q4 q5 q6))
      go_ret
      have c1 := (below_alloc wr (.cells #[.int .u8 (x.1.toNat : Int), .int .u8 (d.size : Int)] 5)).mono hbw
      have hO1 := own_keep HO2.out (below_alloc wr (.cells #[.int .u8 (x.1.toNat : Int), .int .u8 (d.size : Int)] 5))
      have b1 := Nat.le_trans hbw c1.size
      have c2 := below_grown b1 hO1 q2
      have b2 := Nat.le_trans b1 c2.size
      have c3 := below_grown b2 q1 q5
      refine ⟨v4, rfl, HB2.out.trans (c1.trans (c2.trans c3)), ?_⟩
      rw [← HE.out, EP.out]
      have e : l2 ++ [x.1, UInt8.ofNat d.size] ++ lb d = l2 ++ x.1 :: UInt8.ofNat d.size :: lb d := by simp
      rw [← e]
      exact q4
end Go.Proofs.Ytmoklodaeicpgaa
