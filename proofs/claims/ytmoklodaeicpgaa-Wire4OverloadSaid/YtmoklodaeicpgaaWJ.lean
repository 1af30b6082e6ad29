/-
  Bytes that a call has out of a string, written one by one; the law's awake. No condition beyond those in each theorem's own statement.
-/
import Derived.Test.YtmoklodaeicpgaaWH
import Derived.Test.YtmoklodaeicpgaaWI
namespace Go.Proofs.Ytmoklodaeicpgaa
open Go.RowKit Go.Joins

/-- bytes in a block -/
def RowL (g : Nat) (l : List UInt8) (W : World) : Prop := g < W.heap.size ∧ ∀ j b, l[j]? = some b → W.cell? ⟨g, j, none⟩ = some (.int .u8 (b.toNat : Int)) ∧ W.frozen? ⟨g, j, none⟩ = false
theorem RowL.step {g : Nat} {l : List UInt8} {W w2 : World} (h : RowL g l W) (hb : Below W.heap.size W w2) : RowL g l w2 :=
  ⟨Nat.lt_of_lt_of_le h.1 hb.size, fun j b hj => ⟨keep_cell hb (h.2 j b hj).1, keep_free hb h.1 (h.2 j b hj).2⟩⟩
theorem RowL.put {g : Nat} {l : List UInt8} {W : World} (h : RowL g l W) {k : Nat} (hk : k < l.length) (x : UInt8) : RowL g (l.set k x) (W.setCell ⟨g, k, none⟩ (.int .u8 (x.toNat : Int))) := by
  refine ⟨by simpa [World.setCell] using h.1, fun j b hj => ?_⟩
  rw [List.getElem?_set] at hj
  have hf : (W.setCell ⟨g, k, none⟩ (.int .u8 (x.toNat : Int))).frozen? ⟨g, j, none⟩ = W.frozen? ⟨g, j, none⟩ := by simp
  by_cases e : k = j
  · subst e
    rw [if_pos rfl, if_pos hk] at hj
    cases hj
    have := h.2 k _ (List.getElem?_eq_getElem hk)
    exact ⟨by simp [go_sem, this.1], by rw [hf]; exact this.2⟩
  · rw [if_neg e] at hj
    have := h.2 j b hj
    have c := World.cell?_setCells_out g [.int .u8 (x.toNat : Int)] k W ⟨g, j, none⟩ (fun _ _ => by simp; omega)
    exact ⟨c.trans this.1, by rw [hf]; exact this.2⟩
theorem RowL.some {g : Nat} {l : List UInt8} {W : World} (h : RowL g l W) {j : Nat} (hj : j < l.length) : ∃ b : Int, W.cell? ⟨g, j, none⟩ = some (.int .u8 b) ∧ W.frozen? ⟨g, j, none⟩ = false := ⟨_, h.2 j _ (List.getElem?_eq_getElem hj)⟩
theorem frozen_row {V : World} {g : Nat} {cs : Array Value} {t : TypeId} {x y : Nat} (h : V.heap[g]? = some (.cells cs t (x, y))) (j : Nat) : V.frozen? ⟨g, j, none⟩ = (decide (x ≤ j) && decide (j < y)) := by
  unfold World.frozen?
  simp [h]
theorem conv_bytes (w : World) (s : ByteArray) : ∃ cap w2, (convert 9 39 (.string s)).run Try.prog w = .ok (.slice (some ⟨w.heap.size, 0, none⟩) s.size cap) w2 ∧
    RowL w.heap.size (lb s) w2 ∧ Below w.heap.size w w2 ∧ s.size ≤ cap := by
  have hge : s.size ≤ grownCap w s.size 0 5 := grownCap_ge w s.size 0 5
  refine ⟨_, _, run_bytes_of_string (P := Try.prog) w 9 39 5 s Try.underlying9 Try.underlying39 Try.underlying5, ?_, (Below.refl _ _).drew.alloc (Nat.le_refl _) _, hge⟩
  generalize grownCap w s.size 0 5 = cap at *
  have hsz : (bytesRow s cap).size = cap := by
    unfold bytesRow
    rw [Array.size_append, Array.size_map, Array.size_replicate]
    show s.size + (cap - s.size) = cap
    omega
  have hn := heap_alloc_new w.drew (.cells (bytesRow s cap) 5 ((bytesRow s cap).size, (bytesRow s cap).size + 1))
  have hd : w.drew.heap.size = w.heap.size := rfl
  rw [hd] at hn
  refine ⟨by simp, fun j b hj => ?_⟩
  have hl : j < s.size := by have := (List.getElem?_eq_some_iff.1 hj).1; rwa [lb_len] at this
  refine ⟨?_, ?_⟩
  · rw [cell_of_row _ _ j _ _ _ hn]
    unfold bytesRow
    rw [Array.getElem?_append_left (by rw [Array.size_map]; exact hl), Array.getElem?_map, ← Array.getElem?_toList]
    have hj : s.data.toList[j]? = some b := hj
    rw [hj]; rfl
  · rw [frozen_row hn j, hsz]
    simp
    omega
theorem conv_back {W : World} {g cap n : Nat} {l : List UInt8} (h : RowL g l W) (hn : l.length = n) : (convert 39 9 (.slice (some ⟨g, 0, none⟩) n cap)).run Try.prog W = .ok (.string (bs l)) W := by
  subst hn
  refine run_convert_bytes_back (P := Try.prog) W 39 9 5 ⟨g, 0, none⟩ cap l Try.underlying39 Try.underlying5 Try.underlying9 (fun j hj => ?_)
  have ha : (⟨g, 0, none⟩ : Go.Addr).add j = ⟨g, j, none⟩ := by cases j <;> simp [Addr.add]
  rw [ha, (h.2 j _ (List.getElem?_eq_getElem hj)).1]
/-! ### awake -/
def blank1 : Hd := { blankH with op := 1 }
def E241 : List UInt8 := encL (blank1, [])
def L240 : List UInt8 := (((E241.take 240).set 108 12).set 109 1).set 110 97
def L240b : List UInt8 := L240.set 111 255
theorem aw1 : encE (blank1, []) = 0 ∧ soundM (blank1, []) = true ∧ E241.length = 241 ∧ E241.drop 236 = [99, 130, 83, 99, 255] := by decide +kernel
theorem aw2 : (decR (bs (L240b ++ [52, 1, 1, 255]))).1 = 0 ∧ (decR (bs (L240b ++ [52, 1, 1, 255]))).2.2 = [(12, ⟨#[97]⟩)] ∧ (decR (bs (L240b ++ [52, 1, 1, 255]))).2.1.file = nul 128 ∧ (decR (bs (L240b ++ [52, 1, 1, 255]))).2.1.op = 1 := by decide +kernel
theorem aw3 : (decR (bs (L240b ++ [52, 1, 4, 255]))).1 = 130 := by decide +kernel
theorem e241_enc : encS (blank1, []) = E241 := by unfold encS; rw [aw1.1]; rfl
theorem e241_size : (bs E241).size = 241 := by rw [bs_size]; exact aw1.2.2.1
theorem e241_tail : ((bs E241).extract 236 (bs E241).size).toList = [99, 130, 83, 99, 255] := by
  rw [ByteArray.toList_eq, ByteArray.data_extract, Array.toList_extract, List.extract_eq_take_drop, e241_size]
  show (E241.drop 236).take 5 = _
  rw [aw1.2.2.2]; rfl
theorem ext_take (l : List UInt8) (n : Nat) : (bs l).extract 0 n = bs (l.take n) := by
  have : lb ((bs l).extract 0 n) = l.take n := by
    show ((bs l).extract 0 n).data.toList = _
    rw [ByteArray.data_extract, Array.toList_extract, List.extract_eq_take_drop]
    show (l.drop 0).take (n - 0) = _
    simp
  rw [← bs_lb ((bs l).extract 0 n), this]
theorem BoxM.op {b : Nat} {h : Hd} {v : Value} {W : World} (H : BoxM b h v W) (x : UInt8) : BoxM b { h with op := x } v (W.setCell ⟨b, 0, none⟩ (.int .u8 (x.toNat : Int))) := by
  have := set_block H 0 (.int .u8 (x.toNat : Int))
  unfold BoxM
  rw [this]
  rfl
theorem BoxM.cells {b : Nat} {m : Hd} {v : Value} {W : World} (h : BoxM b m v W) : W.cell? ⟨b, 0, none⟩ = some (.int .u8 (m.op.toNat : Int)) ∧ W.cell? ⟨b, 1, none⟩ = some (.int .u8 (m.ht.toNat : Int)) ∧ W.cell? ⟨b, 2, none⟩ = some (.int .u8 (m.hl.toNat : Int)) ∧ W.cell? ⟨b, 3, none⟩ = some (.int .u8 (m.ho.toNat : Int)) ∧ W.cell? ⟨b, 4, none⟩ = some (.int .u32 (m.xid.toNat : Int)) ∧ W.cell? ⟨b, 5, none⟩ = some (.int .u16 (m.secs.toNat : Int)) ∧ W.cell? ⟨b, 6, none⟩ = some (.int .u16 (m.flags.toNat : Int)) ∧ W.cell? ⟨b, 7, none⟩ = some (.int .u32 (m.ci.toNat : Int)) ∧ W.cell? ⟨b, 8, none⟩ = some (.int .u32 (m.yi.toNat : Int)) ∧ W.cell? ⟨b, 9, none⟩ = some (.int .u32 (m.si.toNat : Int)) ∧ W.cell? ⟨b, 10, none⟩ = some (.int .u32 (m.gi.toNat : Int)) ∧ W.cell? ⟨b, 11, none⟩ = some (.string m.hard) ∧ W.cell? ⟨b, 12, none⟩ = some (.string m.name) ∧ W.cell? ⟨b, 13, none⟩ = some (.string m.file) ∧ W.cell? ⟨b, 14, none⟩ = some (v) :=
  ⟨h.all 0, h.all 1, h.all 2, h.all 3, h.all 4, h.all 5, h.all 6, h.all 7, h.all 8, h.all 9, h.all 10, h.all 11, h.all 12, h.all 13, h.all 14⟩
theorem cat_bs (l m : List UInt8) : bs l ++ bs m = bs (l ++ m) := cat2 l m
theorem aw_dec1 (W : World) : Calls Try.prog 16 #[.string (bs L240b ++ ⟨#[52, 1, 1, 255]⟩)] W (fun e w2 => ∃ hd b o c, e = .returned (.tuple #[MV hd (.slice (some ⟨b, o, none⟩) 1 c), .int .i64 0]) ∧ Below W.heap.size W w2 ∧ LstO (.slice (some ⟨b, o, none⟩) 1 c) [((12 : UInt8), (⟨#[97]⟩ : ByteArray))] w2 ∧ hd.file = nul 128 ∧ hd.op = 1) := by
  have e : bs L240b ++ ⟨#[52, 1, 1, 255]⟩ = bs (L240b ++ [52, 1, 1, 255]) := cat_bs _ _
  rw [e]
  refine (decode_any _ W).mono ?_
  rintro e w2 ⟨v, rfl, hb, ho, _⟩
  rw [aw2.2.1] at ho
  obtain ⟨p, c, rfl, _⟩ := lenO ho
  obtain ⟨b, o, rfl, _⟩ := lstO_at (ownO_lst ho) (k := 0) rfl
  exact ⟨_, b, o, c, by rw [aw2.1]; rfl, hb, ownO_lst ho, aw2.2.2.1, aw2.2.2.2⟩
theorem aw_dec2 (W : World) : Calls Try.prog 16 #[.string (bs L240b ++ ⟨#[52, 1, 4, 255]⟩)] W (fun e w2 => ∃ hd p n c, e = .returned (.tuple #[MV hd (.slice p n c), .int .i64 130]) ∧ Below W.heap.size W w2) := by
  have e : bs L240b ++ ⟨#[52, 1, 4, 255]⟩ = bs (L240b ++ [52, 1, 4, 255]) := cat_bs _ _
  rw [e]
  refine (decode_any _ W).mono ?_
  rintro e w2 ⟨v, rfl, hb, ho, _⟩
  obtain ⟨p, c, rfl, _⟩ := lenO ho
  exact ⟨_, p, _, c, by rw [aw3]; rfl, hb⟩
theorem aw_facts {W : World} {n m b o c : Nat} {h : Hd} (Gn : BoxM n h (.slice (some ⟨b, o, none⟩) 1 c) W) (Gm : BoxM m blank1 (.slice none 0 0) W) (hl : LstO (.slice (some ⟨b, o, none⟩) 1 c) [((12 : UInt8), (⟨#[97]⟩ : ByteArray))] W) (hf : h.file = nul 128) (ho : h.op = 1) :
    W.cell? ⟨n, 14, none⟩ = some (.slice (some ⟨b, o, none⟩) 1 c) ∧ W.cell? ⟨b, o, none⟩ = some (.int .u8 12) ∧ W.cell? ⟨b, o + 1, none⟩ = some (.string ⟨#[97]⟩) ∧ W.cell? ⟨n, 13, none⟩ = some (.string (nul 128)) ∧ W.cell? ⟨m, 13, none⟩ = some (.string (nul 128)) ∧ W.cell? ⟨n, 0, none⟩ = some (.int .u8 1) := by
  obtain ⟨b8, o8, e8, _, y0, y1⟩ := lstO_at hl (k := 0) rfl
  cases e8
  refine ⟨Gn.all 14, y0, y1, ?_, Gm.all 13, ?_⟩
  · rw [← hf]; exact Gn.all 13
  · have : W.cell? ⟨n, 0, none⟩ = some (.int .u8 (h.op.toNat : Int)) := Gn.all 0
    rw [this, ho]; rfl
theorem l240_len : L240b.length = 240 := by
  unfold L240b L240
  rw [List.length_set, List.length_set, List.length_set, List.length_set, List.length_take, aw1.2.2.1]; rfl
set_option maxRecDepth 100000 in
set_option maxHeartbeats 8000000 in
theorem awake_any (w : World) : Calls Try.prog 8 #[] w (Gives (.bool true) w) := by
  have BL := hide (fun W => blank_any W)
  have EN := hide (fun W => (show Calls Try.prog 12 #[MV blank1 (.slice none 0 0)] W (Gives (.tuple #[.string (bs E241), .int .i64 0]) W) by
    have := encode_any blank1 (v := .slice none 0 0) (l := []) (by simp) W (Or.inl ⟨none, 0, rfl, rfl, fun _ => rfl, by omega⟩)
    unfold EncP at this
    rw [e241_enc, aw1.1] at this
    exact this))
  have SO := hide (fun W => (show Calls Try.prog 14 #[MV blank1 (.slice none 0 0)] W (Gives (.bool true) W) by
    have := msound_any blank1 (v := .slice none 0 0) (l := []) (by simp) W (Or.inl ⟨none, 0, rfl, rfl, fun _ => rfl, by omega⟩)
    rw [aw1.2.1] at this
    exact this))
  have Q1 : ((((bs E241).size : Nat) : Int) != 241) = false := by rw [e241_size]; rfl
  have Q2 : (((bs E241).extract 236 (bs E241).size).toList == [99, 130, 83, 99, 255]) = true := by rw [e241_tail]; rfl
  have Q3 : (240 : Int) ≤ (((bs E241).size : Nat) : Int) ∧ (236 : Int) ≤ (((bs E241).size : Nat) : Int) := by rw [e241_size]; decide
  have X1 := hide (ext_take E241 240)
  have L1 := hide (show (bs (E241.take 240)).size = 240 by rw [bs_size, List.length_take, aw1.2.2.1]; rfl)
  generalize bs E241 = ee at *
  go_enter Try.func8, Try.ntmps8
  go_wp2_with fail
  refine (BL.out _).mono ?_
  rintro e w1 ⟨rfl, hb1⟩
  have N1 := hide (box_new w1 zeroH (.slice none 0 0))
  have D1 := hide (hb1.trans ((below_alloc w1 (.cells (cellsM zeroH (.slice none 0 0)) 26)).mono hb1.size))
  have S1 := hb1.size
  clear hb1
  go_wp2_with (first | refine wpList_load_box rfl (.tmp 1) rfl w1.heap.size blank1 (.slice none 0 0) rfl G3.out ?_ | refine wpList_store_box rfl (.tmp 1) (.tmp 9) rfl w1.heap.size _ blankH _ (.slice none 0 0) rfl rfl rfl N1.out ?_; intro w2 G2 B2 Z2; have c0 := G2.all 0; have f0 := free_at G2 0; have G3 := hide (G2.op 1); have D3 := hide ((D1.out.trans (B2 _ S1)).setCell (p := ⟨w1.heap.size, 0, none⟩) S1 (.int .u8 1)); clear N1 D1 B2 Z2)
  refine (EN.out _).mono ?_
  rintro e w4 ⟨rfl, hb4⟩
  have G4 := hide (G3.out.step hb4)
  have D4 := hide (D3.out.trans (hb4.mono D3.out.size))
  clear hb4 G3 D3 G2 c0 f0 EN BL
  have G4b := hide (show BoxM w1.heap.size blank1 (.slice none 0 0) w4 from G4.out)
  obtain ⟨c0, c1, c2, c3, c4, c5, c6, c7, c8, c9, c10, c11, c12, c13, c14⟩ := G4b.out.cells
  go_wp2_with fail
  refine (SO.out w4).mono ?_
  rintro e w5 ⟨rfl, hb5⟩
  have G5 := hide (G4b.out.step hb5)
  have D5 := hide (D4.out.trans (hb5.mono D4.out.size))
  clear hb5 G4 G4b D4 SO c0 c1 c2 c3 c4 c5 c6 c7 c8 c9 c10 c11 c12 c13 c14
  obtain ⟨cap, w6, CV, R6, B6, hcap⟩ := conv_bytes w5 (ee.extract 0 240)
  have XS : (ee.extract 0 240).size = 240 := by rw [X1.out]; exact L1.out
  rw [XS] at CV hcap
  rw [X1.out, lb_bs] at R6
  have G6 := hide (G5.out.step B6)
  have D6 := hide (D5.out.trans (B6.mono D5.out.size))
  have hg := lt_of_block G5.out
  have Dw := D5.out.size
  generalize w5.heap.size = g at *
  have LE : (E241.take 240).length = 240 := by rw [List.length_take, aw1.2.2.1]; rfl
  have R7 : RowL g ((E241.take 240).set 108 12) (w6.setCell ⟨g, 108, none⟩ (.int .u8 12)) := R6.put (by omega) 12
  have R8 : RowL g (((E241.take 240).set 108 12).set 109 1) ((w6.setCell ⟨g, 108, none⟩ (.int .u8 12)).setCell ⟨g, 109, none⟩ (.int .u8 1)) := R7.put (by rw [List.length_set]; omega) 1
  have R9 : RowL g L240 (((w6.setCell ⟨g, 108, none⟩ (.int .u8 12)).setCell ⟨g, 109, none⟩ (.int .u8 1)).setCell ⟨g, 110, none⟩ (.int .u8 97)) := R8.put (by rw [List.length_set, List.length_set]; omega) 97
  have RA : RowL g L240b ((((w6.setCell ⟨g, 108, none⟩ (.int .u8 12)).setCell ⟨g, 109, none⟩ (.int .u8 1)).setCell ⟨g, 110, none⟩ (.int .u8 97)).setCell ⟨g, 111, none⟩ (.int .u8 255)) := R9.put (by unfold L240; rw [List.length_set, List.length_set, List.length_set]; omega) 255
  obtain ⟨x1, k1a, k1b⟩ := R6.some (show 108 < _ by omega)
  obtain ⟨x2, k2a, k2b⟩ := R7.some (show 109 < _ by rw [List.length_set]; omega)
  obtain ⟨x3, k3a, k3b⟩ := R8.some (show 110 < _ by rw [List.length_set, List.length_set]; omega)
  obtain ⟨x4, k4a, k4b⟩ := R9.some (show 111 < _ by unfold L240; rw [List.length_set, List.length_set, List.length_set]; omega)
  have CB := conv_back (cap := cap) RA l240_len
  have HRA := hide RA
  have GA := hide (show BoxM w1.heap.size blank1 (.slice none 0 0) ((((w6.setCell ⟨g, 108, none⟩ (.int .u8 12)).setCell ⟨g, 109, none⟩ (.int .u8 1)).setCell ⟨g, 110, none⟩ (.int .u8 97)).setCell ⟨g, 111, none⟩ (.int .u8 255)) from
    (set_other (Nat.ne_of_lt hg)).trans ((set_other (Nat.ne_of_lt hg)).trans ((set_other (Nat.ne_of_lt hg)).trans ((set_other (Nat.ne_of_lt hg)).trans G6.out))))
  have DA := hide ((((D6.out.setCell (p := ⟨g, 108, none⟩) Dw (.int .u8 12)).setCell (p := ⟨g, 109, none⟩) Dw (.int .u8 1)).setCell (p := ⟨g, 110, none⟩) Dw (.int .u8 97)).setCell (p := ⟨g, 111, none⟩) Dw (.int .u8 255))
  clear R6 R7 R8 R9 RA LE B6 G5 D5 X1 L1 G6 D6 hg
  go_wp2_with fail
  generalize (((w6.setCell ⟨g, 108, none⟩ (.int .u8 12)).setCell ⟨g, 109, none⟩ (.int .u8 1)).setCell ⟨g, 110, none⟩ (.int .u8 97)).setCell ⟨g, 111, none⟩ (.int .u8 255) = WA at *
  clear k1a k1b k2a k2b k3a k3b k4a k4b CV hcap XS Q1 Q2 Q3 CB
  have DE1 := hide (aw_dec1 WA)
  have DE2 := hide (fun W => aw_dec2 W)
  have CB2 := hide (fun W (h : RowL g L240b W) => conv_back (cap := cap) h l240_len)
  have NB : ¬ 9223372036854775807 < (bs L240b).size + 4 := by rw [bs_size, l240_len]; decide
  generalize bs L240b = bb at *
  refine DE1.out.mono ?_
  rintro e w7 ⟨h7, b7, o7, c7, rfl, hb7, ho7, hf7, hop7⟩
  have N8 := hide (box_new w7 zeroH (.slice none 0 0))
  have B8 := hide (below_alloc w7 (.cells (cellsM zeroH (.slice none 0 0)) 26))
  have C8 := hide (chain hb7 B8.out)
  have R8 := hide (HRA.out.step hb7)
  have G8 := hide (GA.out.step hb7)
  have O8 := hide ho7
  have D8 := hide (DA.out.trans (hb7.mono DA.out.size))
  have HF := hide hf7
  have HO := hide hop7
  have S8 := hide (Nat.le_trans Dw (Nat.le_of_lt R8.out.1))
  clear hb7 ho7 hf7 hop7 GA DA HRA DE1 C8
  go_wp2_with (refine wpList_store_box rfl (.tmp 5) (.tmp 49) rfl w7.heap.size _ h7 _ (.slice (some ⟨b7, o7, none⟩) 1 c7) rfl rfl rfl N8.out ?_; intro w9 G9 B9 Z9; have K9 := hide (show Below w7.heap.size w7 w9 from B8.out.trans (B9 _ (Nat.le_refl _))); have CB9 := CB2.out _ (R8.out.step K9.out); have G9h := hide G9; clear N8 B8 B9 Z9 G9)
  refine (DE2.out w9).mono ?_
  rintro e wa ⟨ha, pa, na, ca, rfl, hba⟩
  have NA := hide (box_new wa zeroH (.slice none 0 0))
  have Ba := hide (below_alloc wa (.cells (cellsM zeroH (.slice none 0 0)) 26))
  have Ka := hide (chain K9.out hba)
  have G9a := hide (G9h.out.step hba)
  have w79 := K9.out.size
  clear hba CB9 CB2 DE2 R8 K9
  go_wp2_with (refine wpList_store_box rfl (.tmp 7) (.tmp 56) rfl wa.heap.size _ ha _ (.slice pa na ca) rfl rfl rfl NA.out ?_; intro wb Gb Bb Zb; have Kb := hide (show Below wa.heap.size wa wb from Ba.out.trans (Bb _ (Nat.le_refl _))); have Gn := hide (G9a.out.step Kb.out); have Gm := hide (G8.out.step (chain Ka.out Kb.out)); have Ob := hide (O8.out.step (chain Ka.out Kb.out)); have Db := hide (D8.out.trans ((chain Ka.out Kb.out).mono D8.out.size)); obtain ⟨n14, y0, y1, n13, m13, n0⟩ := aw_facts Gn.out Gm.out Ob.out HF.out HO.out; clear NA Ba Bb Zb Gb)
  go_ret
  exact ⟨rfl, Db.out⟩
end Go.Proofs.Ytmoklodaeicpgaa
