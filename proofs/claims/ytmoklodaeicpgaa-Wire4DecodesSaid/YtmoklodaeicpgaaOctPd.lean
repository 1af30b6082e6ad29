/-
  The contract of the document's own Pad: bytes that are appended one by one to a converted string's. Condition: text and padding together take at most 2^47 bytes.
-/
import Derived.Test.YtmoklodaeicpgaaOctR
import Derived.Laws.IdiomCopy
namespace Go.Proofs.Ytmoklodaeicpgaa
open Go.RowKit Go.Joins

/-- a row of bytes with its spare room -/
def RB (base g n cap : Nat) (l : List UInt8) (W : World) : Prop := base ≤ g ∧ g < W.heap.size ∧ n ≤ cap ∧ l.length = n ∧
  (∀ j u, (l.map byteV)[j]? = some u → W.cell? ⟨g, 0 + j, none⟩ = some u) ∧ (∀ j, n ≤ j → j < cap → (W.cell? ⟨g, j, none⟩).isSome = true ∧ W.frozen? ⟨g, j, none⟩ = false)
theorem RB.step {base g n cap : Nat} {l : List UInt8} {W w2 : World} (h : RB base g n cap l W) (hb : Below W.heap.size W w2) : RB base g n cap l w2 := by
  obtain ⟨h1, h2, h3, h4, h5, h6⟩ := h
  refine ⟨h1, Nat.lt_of_lt_of_le h2 hb.size, h3, h4, fun j u hj => keep_cell hb (h5 j u hj), fun j hj hc => ?_⟩
  obtain ⟨k1, k2⟩ := h6 j hj hc
  exact ⟨by rw [hb.cell (p := ⟨g, j, none⟩) h2]; exact k1, keep_free hb h2 k2⟩
theorem RB.push {base g n cap : Nat} {l : List UInt8} {W : World} (h : RB base g n cap l W) (hr : n + 1 ≤ cap) (b : UInt8) : RB base g (n + 1) cap (l ++ [b]) (W.setCells g n [byteV b]) := by
  obtain ⟨h1, h2, h3, h4, h5, h6⟩ := h
  have out : ∀ j, j ≠ n → (W.setCells g n [byteV b]).cell? ⟨g, j, none⟩ = W.cell? ⟨g, j, none⟩ := fun j hj =>
    World.cell?_setCells_out g [byteV b] n W ⟨g, j, none⟩ (fun _ _ => by simp; omega)
  refine ⟨h1, ?_, hr, by rw [List.length_append, h4]; rfl, ?_, ?_⟩
  · show g < (W.setCell ⟨g, n, none⟩ (byteV b)).heap.size
    simpa using h2
  · intro j u hj
    rw [List.map_append] at hj
    by_cases e : j < n
    · rw [Nat.zero_add, out j (by omega)]
      rw [List.getElem?_append_left (by rw [List.length_map, h4]; exact e)] at hj
      have := h5 j u hj
      rwa [Nat.zero_add] at this
    · rw [List.getElem?_append_right (by rw [List.length_map, h4]; omega), List.length_map, h4] at hj
      have : j = n := by
        rcases Nat.lt_or_ge n j with k | k
        · rw [List.getElem?_eq_none (by simp; omega)] at hj; cases hj
        · omega
      subst this
      rw [Nat.sub_self] at hj
      simp at hj
      subst hj
      have := World.cell?_setCells_in g [byteV b] j W (fun i hi => by
        have : i = 0 := by simpa using hi
        subst this
        exact (h6 j (Nat.le_refl _) (by omega)).1) 0 (by simp)
      simpa using this
  · intro j hj hc
    obtain ⟨k1, k2⟩ := h6 j (by omega) hc
    exact ⟨by rw [out j (by omega)]; exact k1, by rw [World.frozen?_setCells]; exact k2⟩
theorem rb_owned {w : World} {base : Nat} {v : Value} {n : Nat} {l : List UInt8} (h : w.ownsRow base 5 1 v (n + 1) (l.map byteV)) : ∃ g cap, v = .slice (some ⟨g, 0, none⟩) (n + 1) cap ∧ RB base g (n + 1) cap l w := by
  have hl := h.1
  rcases h.2 with ⟨_, h0⟩ | ⟨g, cap, cur, rfl, hb, hg, hc, _, hs, ht⟩
  · omega
  · refine ⟨g, cap, rfl, hb, ?_, hc, by simpa using hl, ?_, ?_⟩
    · rcases Nat.lt_or_ge g w.heap.size with h' | h'
      · exact h'
      · rw [Array.getElem?_eq_none h'] at hg; cases hg
    · intro j u hj
      have hj2 : j < (n + 1) * 1 := by
        have := (List.getElem?_eq_some_iff.1 hj).1
        rw [hl] at this; exact this
      rw [Nat.zero_add, h.cellAt j hj2]
      exact hj
    · intro j _ hj
      refine ⟨?_, h.frozenAt j⟩
      rw [cell_of_row w g j cur _ (0, 0) hg, Array.getElem?_eq_getElem (by omega)]
      rfl
theorem frozen_rowR {V : World} {g : Nat} {cs : Array Value} {t : TypeId} {x y : Nat} (h : V.heap[g]? = some (.cells cs t (x, y))) (j : Nat) : V.frozen? ⟨g, j, none⟩ = (decide (x ≤ j) && decide (j < y)) := by
  unfold World.frozen?
  simp [h]
theorem conv_bytesR (w : World) (s : ByteArray) : ∃ cap w2, (convert 9 39 (.string s)).run Try.prog w = .ok (.slice (some ⟨w.heap.size, 0, none⟩) s.size cap) w2 ∧
    RB w.heap.size w.heap.size s.size cap s.data.toList w2 ∧ Below w.heap.size w w2 := by
  refine ⟨_, _, run_bytes_of_string (P := Try.prog) w 9 39 5 s Try.underlying9 Try.underlying39 Try.underlying5, ?_, (Below.refl _ _).drew.alloc (Nat.le_refl _) _⟩
  have hge : s.size ≤ grownCap w s.size 0 5 := grownCap_ge w s.size 0 5
  generalize grownCap w s.size 0 5 = cap at *
  have hsz : (bytesRow s cap).size = cap := by
    unfold bytesRow
    rw [Array.size_append, Array.size_map, Array.size_replicate]
    show s.size + (cap - s.size) = cap
    omega
  have hn := heap_alloc_new w.drew (.cells (bytesRow s cap) 5 ((bytesRow s cap).size, (bytesRow s cap).size + 1))
  have hd : w.drew.heap.size = w.heap.size := rfl
  rw [hd] at hn
  refine ⟨Nat.le_refl _, by simp, hge, rfl, ?_, ?_⟩
  · intro j u hj
    rw [Nat.zero_add, cell_of_row _ _ j _ _ _ hn]
    have hj2 : j < s.data.toList.length := by
      have := (List.getElem?_eq_some_iff.1 hj).1
      simpa using this
    unfold bytesRow
    rw [Array.getElem?_append_left (by rw [Array.size_map]; simpa using hj2), Array.getElem?_map]
    rw [List.getElem?_map, Array.getElem?_toList] at hj
    exact hj
  · intro j h1 h2
    refine ⟨?_, ?_⟩
    · rw [cell_of_row _ _ j _ _ _ hn, Array.getElem?_eq_getElem (by omega)]
      rfl
    · rw [frozen_rowR hn j, hsz]
      simp
      omega
theorem conv_rb {w : World} {base g n cap : Nat} {l : List UInt8} (h : RB base g n cap l w) :
    (convert 39 9 (.slice (some ⟨g, 0, none⟩) n cap)).run Try.prog w = .ok (St l) w := by
  obtain ⟨_, _, _, rfl, h5, _⟩ := h
  refine run_convert_bytes_back (P := Try.prog) w 39 9 5 ⟨g, 0, none⟩ cap l Try.underlying39 Try.underlying5 Try.underlying9 (fun j hj => ?_)
  have := h5 j (byteV l[j]) (by rw [List.getElem?_map, List.getElem?_eq_getElem hj]; rfl)
  have ha : (⟨g, 0, none⟩ : Go.Addr).add j = ⟨g, 0 + j, none⟩ := by cases j <;> simp [Addr.add]
  rw [ha, this]
  rfl
theorem rep_next (l : List UInt8) (k : Nat) : (l ++ List.replicate k 0) ++ [0] = l ++ List.replicate (k + 1) 0 := by
  rw [List.append_assoc, ← List.replicate_succ']
theorem zero_at (W : World) (t : TypeId) : ∀ j u, [byteV 0][j]? = some u → (W.alloc (.cells #[.int .u8 0] t)).cell? ((⟨W.heap.size, 0, none⟩ : Go.Addr).add j) = some u := one_at W 0 t

set_option maxRecDepth 100000 in
set_option maxHeartbeats 1000000 in
theorem pad_ref_yes (s : ByteArray) (c : Nat) (hc : s.size + c ≤ 1073741824) (w : World) :
    Calls Try.prog 45 #[.string s, .int .i64 ((s.size + c : Nat) : Int)] w (Gives (.tuple #[.string (padV s c), .bool true]) w) := by
  obtain ⟨i0, hi, hz0, hz1, hz2⟩ := info_parts infoB
  obtain ⟨cap0, w2, CV, R0, B0⟩ := conv_bytesR w s
  obtain ⟨m, hm⟩ : ∃ m : Nat, m = s.size + c := ⟨_, rfl⟩
  rw [← hm]
  have h1 : ¬ (m : Int) < (s.size : Int) := by omega
  have HM := hide hm
  have m1 : m ≤ 1073741824 := by omega
  clear hm hc
  go_enter Try.func45, Try.ntmps45
  go_wp2_with fail
  go_loopw [6] (fun v wr => ∃ (g n cap k : Nat), n ≤ m ∧ Hid (n = s.size + k) ∧ v = .slice (some ⟨g, 0, none⟩) n cap ∧ RB w.heap.size g n cap (s.data.toList ++ List.replicate k 0) wr ∧ Below w.heap.size w wr) (fun v _ => m - (match v with | .slice _ n _ => n | _ => 0))
  case atStart => exact ⟨_, _, cap0, 0, by have := HM.out; omega, hide rfl, rfl, by simpa using R0, B0⟩
  case round =>
    obtain ⟨g, n, cap, k, hn, NK, rfl, R, hb⟩ := hrel
    clear R0 B0 CV
    by_cases hlt : n < m
    · have RA := R.step (below_alloc wr (.cells #[.int .u8 0] 5))
      have HB := hb.alloc hb.size (.cells #[.int .u8 0] 5)
      have hlt2 : (n : Int) < (m : Int) := by omega
      have zz := hb.size
      obtain ⟨r1, r2, r3, r4, r5, r6⟩ := id RA
      have R4 := hide r4
      clear r4
      go_wp2_with (at_builtin; refine wpList_append_arg _ rfl (.tmp 17) (.tmp 18) 39 rfl 5 i0 (.int .u8 0) 1 1 Try.underlying39 hi hz0 hz1 hz2 rfl (by decide) g 0 n cap ((s.data.toList ++ List.replicate k 0).map byteV) rfl (by rw [List.length_map, R4.out, Nat.mul_one]) r5 ⟨wr.heap.size, 0, none⟩ 1 1 [byteV 0] rfl rfl (zero_at wr 5) (one_cell 0) (fun hr j hj => (by have e : j = 0 := (by simpa using hj); subst e; rw [show 0 + n * 1 + 0 = n by omega]; exact r6 n (Nat.le_refl _) (by omega))) (by unfold maxLen; omega) (by omega) ?_ ?_)
      · intro hroom
        have RP := RA.push hroom 0
        rw [rep_next] at RP
        have HB3 : Below w.heap.size w ((wr.alloc (.cells #[.int .u8 0] 5)).setCells g n [byteV 0]) := HB.setCell r1 _
        generalize (wr.alloc (.cells #[.int .u8 0] 5)).setCells g n [byteV 0] = w3 at *
        clear r1 r2 r3 r5 r6 RA
        go_wp2
        go_roundw
        case rel => exact ⟨g, n + 1, cap, k + 1, by omega, hide (by have := NK.out; omega), rfl, RP, HB3⟩
        case measure => simp; omega
      · intro hgr v3 w3 hown3 hgrow3
        have e : s.data.toList.map byteV ++ (List.replicate k (byteV 0) ++ [byteV 0]) = (s.data.toList ++ List.replicate (k + 1) 0).map byteV := by
          rw [← rep_next]; simp
        rw [e] at hown3
        obtain ⟨g3, cap3, rfl, RP⟩ := rb_owned hown3
        have HB3 := HB.grown hgrow3 (by simp; omega) (fun j hj => by cases hj)
        have RP2 : RB w.heap.size g3 (n + 1) cap3 (s.data.toList ++ List.replicate (k + 1) 0) w3 := ⟨Nat.le_trans (Nat.le_trans hb.size (Nat.le_succ _)) RP.1, RP.2⟩
        clear r1 r2 r3 r5 r6 RA RP e hown3
        go_wp2
        go_roundw
        case rel => exact ⟨g3, n + 1, cap3, k + 1, by omega, hide (by have := NK.out; omega), rfl, RP2, HB3⟩
        case measure => simp; omega
    · have CB := conv_rb R
      have hlt2 : ¬ (n : Int) < (m : Int) := by omega
      have V := hide (show padV s c = ⟨(s.data.toList ++ List.replicate k 0).toArray⟩ by
        have e : k = c := by have := NK.out; have := HM.out; omega
        rw [e]; rfl)
      clear R
      go_wp2
      go_ret2
      exact ⟨congrArg Ending.returned (tup2 (by rw [V.out]; rfl) rfl), hb⟩
set_option maxRecDepth 100000 in
theorem pad_ref_no (s : ByteArray) {n : Int} (h : n < (s.size : Int)) (w : World) :
    Calls Try.prog 45 #[.string s, .int .i64 n] w (Gives (.tuple #[.string ⟨#[]⟩, .bool false]) w) := by
  go_enter Try.func45, Try.ntmps45
  go_wp2
  go_ret2
  exact ⟨rfl, Below.refl _ _⟩
end Go.Proofs.Ytmoklodaeicpgaa
