/-
  Rows of lists of changes in memory; the contract of the law's filled. Condition: fewer than 2^63 lists, of changes of their types.
-/
import Derived.Test.YtpldkgollhbolaaTbAw
namespace Go.Proofs.Ytpldkgollhbolaa
open Go.RowKit Go.Joins Go.Maps

variable {w w' V W W' : World} {t km om : Nat} {O : Nat → Prop} {v : Value} {E : List En} {L : List Ls}
/-- a slice that reads as a row of lists of changes -/
def RwsC (p : Option Go.Addr) (ls : List (List Ch)) (W : World) : Prop := ∀ (k : Nat) (l : List Ch), ls[k]? = some l → ∃ b o q c, p = some ⟨b, o, none⟩ ∧ W.cell? ⟨b, o + k, none⟩ = some (.slice q l.length c) ∧ LstC q l W
theorem RwsC.step {p : Option Go.Addr} {ls : List (List Ch)} (h : RwsC p ls W) (hb : Below W.heap.size W W') : RwsC p ls W' := fun k l hk => by
  obtain ⟨b, o, q, c, h1, h2, h3⟩ := h k l hk
  exact ⟨b, o, q, c, h1, keep_cell hb h2, h3.step hb⟩
theorem LstC.lt {q : Option Go.Addr} {l : List Ch} (h : LstC q l W) (hl : l ≠ []) {b o : Nat} (e : q = some ⟨b, o, none⟩) : b < W.heap.size := by
  cases l with
  | nil => exact absurd rfl hl
  | cons x r =>
    obtain ⟨b2, o2, h1, h2⟩ := h 0 x rfl
    obtain ⟨cur, ty, fz, hb⟩ := h2.cells
    rw [e] at h1; cases h1
    exact lt_of_block hb
/-- what a list played makes of a table; what lists do -/
def playL (L : List Ls) (l : List Ch) : List Ls := if l.length ≤ 300 then applyL L l else L
def fillL (L : List Ls) (ls : List (List Ch)) : List Ls := ls.foldl playL L
theorem fillL_snoc (L : List Ls) (ls : List (List Ch)) (l : List Ch) : fillL L (ls ++ [l]) = playL (fillL L ls) l := by unfold fillL; rw [List.foldl_append]; rfl
set_option maxRecDepth 100000 in
set_option maxHeartbeats 4000000 in
theorem filled_any {ls : List (List Ch)} (ok : ∀ l ∈ ls, okL l) (hm : ls.length ≤ maxLen) {p : Option Go.Addr} {cap : Nat} (w : World) (hr : RwsC p ls w) :
    Calls Try.prog 8 #[.slice p ls.length cap] w (fun e w' => ∃ t, e = .returned (Pt t) ∧ Own w w' t (fillL [] (ls.take 300))) := by
  have HM := hm
  unfold maxLen at HM
  have OK := hide ok
  have HR := hide hr
  have N0 := hide (new_any w)
  clear ok hr hm
  go_enter Try.func8, Try.ntmps8
  go_wp2_with fail
  refine N0.out.mono ?_
  rintro e w1 ⟨t, rfl, hb, hT⟩
  have T1 : Hid (Own w w1 t []) := hide ⟨hb, hT⟩
  clear hb hT N0
  go_wp2_with fail
  go_loopw [4] (fun i wr => ∃ k : Nat, k ≤ ls.length ∧ k ≤ 300 ∧ i = .int .i64 (k : Nat) ∧ Hid (Own w wr t (fillL [] (ls.take k)))) (fun i _ => ls.length - (intOf i).toNat)
  case atStart => exact ⟨0, Nat.zero_le _, by omega, rfl, T1⟩
  case round =>
    clear T1
    obtain ⟨k, hk, hk3, rfl, HT⟩ := hrel
    have hk0 : (0 : Int) ≤ (k : Int) := by omega
    by_cases hlt : k < ls.length ∧ k < 300
    · obtain ⟨h1, h2⟩ := hlt
      obtain ⟨l, hl⟩ : ∃ l, ls[k]? = some l := ⟨_, List.getElem?_eq_getElem h1⟩
      have hlt2 : (k : Int) < (ls.length : Int) := by omega
      have hlt3 : (k : Int) < 300 := by omega
      have TK := hide (show fillL [] (ls.take (k + 1)) = playL (fillL [] (ls.take k)) l by rw [List.take_add_one, hl]; exact fillL_snoc ..)
      obtain ⟨b, o, q, c, rfl, y0, y1⟩ := HR.out k l hl
      have x0 := keep_cell HT.out.1 y0
      have x1 := y1.step HT.out.1
      have okl := OK.out l (List.mem_of_getElem? hl)
      by_cases hs : l.length ≤ 300
      · have TK2 := hide (show fillL [] (ls.take (k + 1)) = applyL (fillL [] (ls.take k)) l by rw [TK.out]; exact if_pos hs)
        have hs2 : (l.length : Int) ≤ 300 := by omega
        have AP := hide (HT.out.apply (cap := c) okl (by omega) x1 (fun b2 o2 e hn => Or.inl (y1.lt hn e)))
        clear hl okl x1 y0 y1
        go_wp2_with fail
        refine AP.out.mono ?_
        rintro e w2 ⟨rfl, hT⟩
        have HT2 := hide hT
        clear hT x0
        go_wp2
        go_roundw
        case rel => exact ⟨k + 1, h1, by omega, by go_num, hide (by rw [TK2.out]; exact HT2.out)⟩
        case measure => simp [intOf]; omega
      · have TK2 := hide (show fillL [] (ls.take (k + 1)) = fillL [] (ls.take k) by rw [TK.out]; exact if_neg hs)
        have hs2 : ¬ (l.length : Int) ≤ 300 := by omega
        clear hl okl x1 y0 y1
        go_wp2
        go_roundw
        case rel => exact ⟨k + 1, h1, by omega, by go_num, hide (by rw [TK2.out]; exact HT.out)⟩
        case measure => simp [intOf]; omega
    · have TK : Hid (fillL [] (ls.take 300) = fillL [] (ls.take k)) := hide (by
        congr 1
        by_cases h : k = 300
        · rw [h]
        · rw [List.take_of_length_le (by omega), List.take_of_length_le (by omega)])
      have END : Hid (∃ t', Ending.returned (Pt t) = .returned (Pt t') ∧ Own w wr t' (fillL [] (ls.take 300))) := hide ⟨t, rfl, by rw [TK.out]; exact HT.out⟩
      by_cases h1 : k < ls.length
      · have hlt2 : (k : Int) < (ls.length : Int) := by omega
        have hlt3 : ¬ (k : Int) < 300 := by omega
        clear hlt
        go_wp2
        go_ret
        exact END.out
      · have hlt2 : ¬ (k : Int) < (ls.length : Int) := by omega
        clear hlt
        go_wp2
        go_ret
        exact END.out
end Go.Proofs.Ytpldkgollhbolaa
