/-
  The contract of decodeHead. Condition: the bytes are from 240 to 65507.
-/
import Derived.Test.YtmoklodaeicpgaaWC
namespace Go.Proofs.Ytmoklodaeicpgaa
open Go.RowKit Go.Joins

/-- the first k fields read, the others blank -/
def mixF (s : ByteArray) (k : Nat) : List Fv := (getH s).fs.take k ++ blankH.fs.drop k
theorem mix_len (s : ByteArray) (k : Nat) (hk : k ≤ 14) : (mixF s k).length = 14 := by
  unfold mixF
  rw [List.length_append, List.length_take, List.length_drop, Hd.fs_len, Hd.fs_len]; omega
theorem mix_zero (s : ByteArray) : mixF s 0 = blankH.fs := rfl
theorem mix_end (s : ByteArray) : mixF s 14 = (getH s).fs := rfl
theorem mix_at {s : ByteArray} {k : Nat} {f : Fv} (h : blankH.fs[k]? = some f) : (mixF s k)[k]? = some f := by
  have hk : k < 14 := (List.getElem?_eq_some_iff.1 h).1
  have hl : ((getH s).fs.take k).length = k := by rw [List.length_take, Hd.fs_len]; omega
  unfold mixF
  rw [List.getElem?_append_right (by omega), hl, Nat.sub_self, List.getElem?_drop]
  exact h
theorem mix_set {s : ByteArray} {k : Nat} {g : Fv} (h : (getH s).fs[k]? = some g) : (mixF s k).set k g = mixF s (k + 1) := by
  have hk : k < 14 := (List.getElem?_eq_some_iff.1 h).1
  have hl : ((getH s).fs.take k).length = k := by rw [List.length_take, Hd.fs_len]; omega
  unfold mixF
  rw [List.set_append_right _ _ (by omega), hl, Nat.sub_self, List.take_add_one, h, List.drop_eq_getElem_cons (show k < blankH.fs.length from hk), List.set_cons_zero]
  simp
/-- a box that holds these fields -/
def BoxF (b : Nat) (fs : List Fv) (v : Value) (W : World) : Prop := W.heap[b]? = some (.cells (cellsF fs v) 26 (0, 0))
theorem BoxF.step {b : Nat} {fs : List Fv} {v : Value} {W w2 : World} (h : BoxF b fs v W) (hb : Below W.heap.size W w2) : BoxF b fs v w2 := (hb.block b (lt_of_block h)).trans h
theorem BoxF.at {b : Nat} {fs : List Fv} {v : Value} {W : World} (h : BoxF b fs v W) {k : Nat} {f : Fv} (hk : fs[k]? = some f) : W.cell? ⟨b, k, none⟩ = some f.val ∧ W.frozen? ⟨b, k, none⟩ = false := by
  refine ⟨?_, free_at h k⟩
  rw [cell_at h, List.getElem?_toArray, List.getElem?_append_left (by rw [List.length_map]; exact (List.getElem?_eq_some_iff.1 hk).1), List.getElem?_map, hk]; rfl
theorem BoxF.set {b : Nat} {fs : List Fv} {v : Value} {W : World} (h : BoxF b fs v W) {k : Nat} (hk : k < fs.length) (f : Fv) : BoxF b (fs.set k f) v (W.setCell ⟨b, k, none⟩ f.val) := by
  have := set_block h k f.val
  unfold BoxF
  rw [this]
  congr 2
  show (fs.map Fv.val ++ [v]).toArray.setIfInBounds k f.val = _
  rw [List.setIfInBounds_toArray, List.set_append_left _ _ (by rw [List.length_map]; exact hk)]
  show _ = ((fs.set k f).map Fv.val ++ [v]).toArray
  rw [List.map_set]
/-- the memory of the loop over a head's fields -/
def HdI (s : ByteArray) (w : World) (b g r : Nat) (k : Nat) (W : World) : Prop := Below w.heap.size w W ∧ BoxF b (mixF s k) (.slice none 0 0) W ∧ RowP b g W ∧ BoxM r zeroH (.slice none 0 0) W ∧ w.heap.size ≤ b ∧ g ≠ b ∧ r ≠ b ∧ w.heap.size ≤ r
theorem HdI.step {s : ByteArray} {w : World} {b g r k : Nat} {W W2 : World} (h : HdI s w b g r k W) (hb : Below W.heap.size W W2) : HdI s w b g r k W2 :=
  ⟨chain h.1 hb, h.2.1.step hb, h.2.2.1.step hb, h.2.2.2.1.step hb, h.2.2.2.2⟩
theorem set_other {W : World} {b g k : Nat} {v : Value} (h : g ≠ b) : (W.setCell ⟨b, k, none⟩ v).heap[g]? = W.heap[g]? := Below.heap_setCell W ⟨b, k, none⟩ v g h
theorem HdI.put {s : ByteArray} {w : World} {b g r k : Nat} {W : World} {f : Fv} (h : HdI s w b g r k W) (hk : (getH s).fs[k]? = some f) : HdI s w b g r (k + 1) (W.setCell ⟨b, k, none⟩ f.val) := by
  obtain ⟨h1, h2, h3, h4, h5, h6, h7, h8⟩ := h
  have hl : k < 14 := (List.getElem?_eq_some_iff.1 hk).1
  refine ⟨?_, ?_, (set_other h6).trans h3, (set_other h7).trans h4, h5, h6, h7, h8⟩
  · first | exact h1.setCell h5 _ | exact h1.setCell (p := ⟨b, k, none⟩) h5
  · rw [← mix_set hk]
    exact h2.set (by rw [mix_len s k (by omega)]; exact hl) f
theorem get_ty (f : Fv) (s : ByteArray) (a : Nat) : (f.get s a).ty = f.ty := by cases f <;> rfl
theorem st_len (l : List UInt8) : (⟨l.toArray⟩ : ByteArray).size = l.length := bs_size l
set_option maxRecDepth 100000 in
set_option maxHeartbeats 4000000 in
theorem head_any (s : ByteArray) (h0 : 240 ≤ s.size) (h1 : s.size ≤ 65507) (w : World) : Calls Try.prog 31 #[.string s] w (Gives (MV (getH s) (.slice none 0 0)) w) := by
  have R0 := hide (box_new w zeroH (.slice none 0 0))
  have BL := hide (fun W => blank_any W)
  have FA := hide (fun b W => fields_any b W)
  go_enter Try.func31, Try.ntmps31
  go_wp2_with fail
  refine (BL.out _).mono ?_
  rintro e w1 ⟨rfl, hb1⟩
  have R1 := hide (R0.out.step hb1)
  have D1 := hide ((below_alloc w _).trans (hb1.mono (below_alloc w _).size))
  have S1 : w.heap.size < w1.heap.size := Nat.lt_of_lt_of_le (by simp) hb1.size
  clear hb1 R0
  have R2 := hide (R1.out.step (below_alloc w1 (.cells (cellsM zeroH (.slice none 0 0)) 26)))
  have N2 := hide (box_new w1 zeroH (.slice none 0 0))
  go_wp2_with (refine wpList_store_box rfl (.tmp 3) (.tmp 7) rfl w1.heap.size _ blankH _ (.slice none 0 0) rfl rfl rfl N2.out ?_; intro w2 G2 B2 Z2)
  refine (FA.out _ _).mono ?_
  rintro e w3 ⟨g, rfl, hb3, hg3, hr3⟩
  have HA := hide (show HdI s w w1.heap.size g w.heap.size 0 w3 from by
    have b2 : Below w1.heap.size w1 w2 := (below_alloc w1 _).trans (B2 _ (Nat.le_refl _))
    refine ⟨D1.out.trans ((b2.mono D1.out.size).trans (hb3.mono (Nat.le_trans D1.out.size b2.size))), ?_, hr3, R1.out.step (chain b2 hb3), D1.out.size, ?_, by omega, Nat.le_refl _⟩
    · exact BoxF.step (fs := blankH.fs) G2 hb3
    · have := lt_of_block G2
      intro e; subst e; omega)
  have r1 : w.heap.size ≠ w1.heap.size := by omega
  generalize w1.heap.size = b at *
  generalize hr : w.heap.size = r at *
  clear hb3 hg3 hr3 R1 R2 N2 G2 B2 Z2 D1 S1 BL FA
  go_wp2_with fail
  go_loopw [4, 10] (fun va vi wr => ∃ k a : Nat, k ≤ 14 ∧ vi = .int .i64 (k : Nat) ∧ va = .int .i64 (a : Nat) ∧ Hid (offs[k]? = some a) ∧ HdI s w b g r k wr) (fun _ vi _ => 14 - (intOf vi).toNat)
  case atStart => exact ⟨0, 0, Nat.zero_le _, rfl, rfl, hide rfl, HA.out⟩
  case round =>
    obtain ⟨k, a, hk, rfl, rfl, HO, HH⟩ := hrel
    clear HA
    by_cases hlt : k < 14
    · obtain ⟨f, a2, q1, q2, q3, q4, q5⟩ := getH_at s k hlt
      obtain rfl : a2 = a := by have := HO.out; rw [q2] at this; exact Option.some.inj this
      have GC : wr.cell? ⟨g, k, none⟩ = some (.iface f.ty (.pointer (some ⟨b, k, none⟩))) := HH.2.2.1.at (m := blankH) q1
      obtain ⟨BC, BF⟩ := HH.2.1.at (mix_at (s := s) q1)
      have RD := hide (read_f f s h1 a2 ⟨b, k, none⟩ wr BC BF (by omega))
      obtain ⟨z, hz, zl⟩ : ∃ z : ByteArray, St (f.get s a2).bytes = .string z ∧ z.size = f.len := ⟨_, rfl, by rw [st_len, Fv.bytes_len, Fv.get_len (by omega)]⟩
      have WR := hide (fun W (h : W.cell? ⟨b, k, none⟩ = some (f.get s a2).val) => (show Calls Try.prog 24 #[.iface f.ty (.pointer (some ⟨b, k, none⟩))] W (Gives (.string z) W) by have t : Calls Try.prog 24 #[.iface (f.get s a2).ty (.pointer (some ⟨b, k, none⟩))] W (Gives (St (f.get s a2).bytes) W) := write_any (f.get s a2) ⟨b, k, none⟩ W h; rw [get_ty, hz] at t; exact t))
      have HS := hide (fun W (h : HdI s w b g r k W) => h.put q3)
      have HP := hide (show (mixF s (k + 1))[k]? = some (f.get s a2) by rw [← mix_set q3, List.getElem?_set_self (by rw [mix_len s k hk]; exact hlt)])
      have HO2 := hide q4
      have HH2 := hide HH
      clear HH BC BF q1 q2 q3 q4 hz HO
      go_wp2_with fail
      refine RD.out.mono ?_
      rintro e w4 ⟨rfl, w5, hb5, rfl⟩
      have H3 := hide (HS.out _ (HH2.out.step hb5))
      clear hb5 HH2 RD HS GC
      generalize w5.setCell ⟨b, k, none⟩ (f.get s a2).val = w6 at *
      go_wp2_with fail
      refine (WR.out _ (H3.out.2.1.at HP.out).1).mono ?_
      rintro e w7 ⟨rfl, hb7⟩
      have H7 := hide (H3.out.step hb7)
      clear hb7 H3 WR HP
      go_wp2
      go_roundw
      case rel => exact ⟨k + 1, a2 + f.len, hlt, by go_num, by rw [← zl]; go_num, HO2, H7.out⟩
      case measure => simp [intOf]; omega
    · have : k = 14 := by omega
      subst this
      have G1 := hide (show BoxM b (getH s) (.slice none 0 0) wr from HH.2.1)
      have G2 := hide HH.2.2.2.1
      have D2 := hide HH.1
      clear HH HO
      go_wp2_with (first | refine wpList_load_box rfl (.tmp 3) rfl b (getH s) (.slice none 0 0) rfl G1.out ?_ | (refine wpList_store_box rfl (.tmp 2) (.tmp 24) rfl r _ (getH s) _ (.slice none 0 0) rfl rfl rfl G2.out ?_; intro w4 G4 B4 _))
      exact bodyPost_ret (v := MV (getH s) (.slice none 0 0)) (results_cell_row rfl _ _ r _ _ _ _ rfl G4 Try.underlying26 rfl infoM) rfl ⟨rfl, D2.out.trans (B4 _ (by rw [hr]; exact Nat.le_refl _))⟩
end Go.Proofs.Ytmoklodaeicpgaa
