/-
  The contract of the document's own edges: the rising row of all edges of a list of ranges. Conditions: the words are words of 64 bits; at most 400000 ranges.
-/
import Derived.Test.YtbcdmnlkbghkpaaSpanAw
namespace Go.Proofs.Ytbcdmnlkbghkpaa
open Go.RowKit Go.Joins

theorem with_len : ∀ (l : List Nat) (a : Nat), (withL l a).length ≤ l.length + 1
  | [], a => by simp [withL]
  | x :: r, a => by
    have := with_len r a
    unfold withL
    split
    · simp; omega
    · split <;> simp
theorem with_fits {l : List Nat} {a : Nat} (fl : ∀ b ∈ l, Fits b) (fa : Fits a) : ∀ b ∈ withL l a, Fits b := fun b h => by
  rcases (mem_with _ _ _).1 h with rfl | h
  · exact fa
  · exact fl b h
theorem edge_next {l : List Rg} {k : Nat} {x : Rg} (h : l[k]? = some x) : (l.take (k + 1)).foldl edgeStep [0] = edgeStep ((l.take k).foldl edgeStep [0]) x := by
  rw [List.take_add_one, h, List.foldl_append]
  rfl
theorem own_zero (W : World) : OwnA (W.alloc (.cells #[.int .u64 0, .int .u64 0] 25)) W.heap.size (.slice (some ⟨W.heap.size, 0, none⟩) 1 1) [0] := by
  have h := World.ownsRow_lit (base := W.heap.size) (e := 25) (size := 2) W #[.int .u64 0, .int .u64 0] 1 (Nat.le_refl _) (by unfold maxLen; omega) rfl
  have e : cellsA [0] = [.int .u64 0, .int .u64 0] := by simp [cellsA, cells2, hi, lo]
  unfold OwnA
  rw [e]
  exact h
set_option maxRecDepth 100000 in
set_option maxHeartbeats 1000000 in
theorem redges_any {v : Value} {l : List Rg} (hf : FitL l) (hl : l.length ≤ 400000) (w : World) (hv : Lst v l w) :
    Calls Try.prog 61 #[v] w (MakesA w.heap.size (edgesL l) w) := by
  obtain ⟨p, c, rfl, hold⟩ := lst_old hv
  have O0 := own_zero w
  have F0 : ∀ b ∈ [0], Fits b := fun b h => by rw [List.mem_singleton.1 h]; unfold Fits; omega
  clear hv
  go_enter Try.func61, Try.ntmps61
  go_wp2_with fail
  go_loopw [3, 4] (fun s3 i wr => ∃ (k : Nat) (v' : Value) (e : List Nat), k ≤ l.length ∧ i = .int .i64 (k : Nat) ∧ v' = s3 ∧ Below w.heap.size w wr ∧ OwnA wr w.heap.size v' e ∧ Hid (e = (l.take k).foldl edgeStep [0]) ∧ Hid (∀ b ∈ e, Fits b) ∧ e.length ≤ 2 * k + 1) (fun _ i _ => l.length - (intOf i).toNat)
  case atStart => exact ⟨0, _, [0], Nat.zero_le _, rfl, rfl, below_alloc _ _, O0, hide rfl, F0, by simp⟩
  case round =>
    obtain ⟨k, v', e, hk, rfl, rfl, HB, hown, E, FE, LE⟩ := hrel
    clear O0
    by_cases hlt : k < l.length
    · obtain ⟨x, hx⟩ := get_some hlt
      have fx := fit_at hf hx
      obtain ⟨b, o, rfl, hbb, x1, x2, x3, x4⟩ := (hold.keep HB) k x hx
      have W1 := hide (fun W H K => rwith_any (v := v') (l := e) (a := x.1) (base := w.heap.size) FE.out fx.1 (by omega) W H K)
      have F1 := with_fits FE.out fx.1
      have L1 := with_len e x.1
      have N := hide (fun W => rnext_any fx.2 W)
      have EN := hide (edge_next hx)
      rw [← E.out] at EN
      have KL : (k : Int) < (l.length : Int) := by omega
      have RX := hide (fun W (H : Below w.heap.size w W) => row_get (hold.keep H) hx)
      clear hx E
      go_wp2_with fail
      clear x1 x2 x3 x4
      refine (W1.out _ hown HB.size).mono ?_
      rintro e w1 ⟨v1, rfl, hb1, own1⟩
      have HB1 := HB.trans hb1
      obtain ⟨x1, x2, x3, x4⟩ := RX.out w1 HB1
      clear W1 hown hb1 HB
      go_wp2_with fail
      clear x1 x2 x3 x4
      refine (N.out _).mono ?_
      rintro e w2 ⟨rfl, hb2⟩
      have HB2 := chain HB1 hb2
      have own2 := own_keep own1 hb2
      clear own1 hb2 HB1 N
      cases ho : addO x.2 1 with
      | true =>
        have EE := hide (show withL e x.1 = (l.take (k + 1)).foldl edgeStep [0] by rw [EN.out]; unfold edgeStep; rw [ho]; rfl)
        generalize addS x.2 1 = n
        have own3 := own_keep own2 (below_alloc w2 (.cells #[.int .u64 (hi n : Nat), .int .u64 (lo n : Nat)] 25))
        have HB3 := chain HB2 (below_alloc w2 (.cells #[.int .u64 (hi n : Nat), .int .u64 (lo n : Nat)] 25))
        clear ho
        have F1 := hide F1
        go_wp2
        go_roundw
        case rel => exact ⟨k + 1, v1, withL e x.1, hlt, by go_num, rfl, HB3, own3, EE, F1, by omega⟩
        case measure => simp [intOf]; omega
      | false =>
        have EE := hide (show withL (withL e x.1) (addS x.2 1) = (l.take (k + 1)).foldl edgeStep [0] by rw [EN.out]; unfold edgeStep; rw [ho]; rfl)
        have fn := fits_addS x.2 1
        generalize addS x.2 1 = n at *
        have own3 := own_keep own2 (below_alloc w2 (.cells #[.int .u64 (hi n : Nat), .int .u64 (lo n : Nat)] 25))
        have HB3 := chain HB2 (below_alloc w2 (.cells #[.int .u64 (hi n : Nat), .int .u64 (lo n : Nat)] 25))
        have W2 := hide (fun W H K => rwith_any (v := v1) (l := withL e x.1) (a := n) (base := w.heap.size) F1 fn (by omega) W H K)
        have F2 := hide (with_fits F1 fn)
        have L2 := with_len (withL e x.1) n
        clear ho own2 HB2 F1 fn
        go_wp2_with fail
        refine (W2.out _ own3 HB3.size).mono ?_
        rintro e2 w4 ⟨v2, rfl, hb4, own4⟩
        have HB4 := HB3.trans hb4
        go_wp2
        go_roundw
        case rel => exact ⟨k + 1, v2, withL (withL e x.1) n, hlt, by go_num, rfl, HB4, own4, EE, F2, by omega⟩
        case measure => simp [intOf]; omega
    · have EE : edgesL l = e := by rw [E.out, List.take_of_length_le (by omega)]; rfl
      have EE := hide EE
      go_wp2
      go_ret
      refine ⟨_, rfl, HB, ?_⟩
      rw [EE.out]
      exact hown
end Go.Proofs.Ytbcdmnlkbghkpaa
