/-
  What the laid variables of a row give the walks: digest's start, turns and sines. No condition.
-/
import Derived.Test.YtiickcdkibcdpaaDoorDigK
import Derived.Test.YtiickcdkibcdpaaDoorRows
import Derived.Lib.LaidTab
import Derived.OpenShut
import Derived.LaidSub
import Derived.LaidOnce
namespace Go.Proofs.YtiickcdkibcdpaaDoor
open Go.RowKit Go.Joins

theorem laid_one {L : List (String × DataW Unit)} {W : World} {n : String} {d : DataW Unit} (h : laidMet Tryd.prog L W) (e : L.filter (fun x => x.1 == n) = [(n, d)]) : laidMet Tryd.prog [(n, d)] W := e ▸ laidMet.filter (fun x => x.1 == n) h
def castL (l : List Nat) : List Int := l.map fun (n : Nat) => (n : Int)
theorem castL_at (l : List Nat) (j : Nat) : (castL l).getD j 0 = ((l.getD j 0 : Nat) : Int) := by
  unfold castL
  rw [List.getD_eq_getElem?_getD, List.getElem?_map, List.getD_eq_getElem?_getD]
  cases l[j]? <;> rfl
theorem laid_start {W : World} (h : laidMet Tryd.prog [("tenancy/digest.start", Rows.laid_tenancy_digest_start)] W) (j : Nat) (hj : j < 4) : W.cell? ⟨0, j, none⟩ = some (U ([1732584193, 4023233417, 2562383102, 271733878].getD j 0)) := by
  have t := Lib.tabIs_of_head (P := Tryd.prog) (W := W) (name := "tenancy/digest.start") (zs := castL [1732584193, 4023233417, 2562383102, 271733878]) (g := 0) (rest := []) (by kernel_rfl) (by kernel_rfl) Tryd.underlying36 Tryd.underlying23 (by kernel_rfl) (by kernel_rfl) (show laidMet Tryd.prog [("tenancy/digest.start", Lib.tabData .u32 (castL [1732584193, 4023233417, 2562383102, 271733878]))] W from h)
  rw [t.cell (by kernel_rfl) j hj, castL_at]
theorem laid_sines {W : World} (h : laidMet Tryd.prog [("tenancy/digest.sines", Rows.laid_tenancy_digest_sines)] W) (j : Nat) (hj : j < 64) : W.cell? ⟨4, j, none⟩ = some (U (sine j)) := by
  have t := Lib.tabIs_of_head (P := Tryd.prog) (W := W) (name := "tenancy/digest.sines") (zs := castL sinesL) (g := 4) (rest := []) (by kernel_rfl) (by kernel_rfl) Tryd.underlying43 Tryd.underlying23 (by kernel_rfl) (by kernel_rfl) (show laidMet Tryd.prog [("tenancy/digest.sines", Lib.tabData .u32 (castL sinesL))] W from h)
  rw [t.cell (by kernel_rfl) j hj, castL_at]; rfl
def rowsT : List (List Nat) := [[7, 12, 17, 22], [5, 9, 14, 20], [4, 11, 16, 23], [6, 10, 15, 21]]
theorem laid_turns {W : World} (h : laidMet Tryd.prog [("tenancy/digest.turns", Rows.laid_tenancy_digest_turns)] W) (j : Nat) (hj : j < 16) : W.cell? ⟨3, j, none⟩ = some (.int .i64 (turn j : Nat)) := by
  have hg : Tryd.prog.globalNamed "tenancy/digest.turns" = some 3 := by kernel_rfl
  have hty : (Tryd.prog.globals[3]?).map (·.type) = some 52 := by kernel_rfl
  have c4 : Tryd.prog.cellsOf 51 = 4 := by kernel_rfl
  have c1 : Tryd.prog.cellsOf 3 = 1 := by kernel_rfl
  have c16 : Tryd.prog.cellsOf 52 = 16 := by kernel_rfl
  obtain ⟨ps, ⟨g', t', cs, fuel, p, q, hg', ht', hvar, hd, _, _⟩, _⟩ := h
  obtain rfl := Option.some.inj (hg.symm.trans hg')
  obtain rfl := Option.some.inj (hty.symm.trans ht')
  obtain ⟨xs, m, _, hx, hl, hxl, hi⟩ := DataW.trod_array Tryd.underlying52 hd
  rw [c16] at hl
  simp only [c4] at hi
  have hxs : xs.map (·.1) = rowsT.map fun r => Lib.tabData .i64 (castL r) := by
    have := congrArg Prod.fst hx
    simp only [Rows.laid_tenancy_digest_turns] at this
    exact (DataW.agg.inj this).symm
  have hrow : ∀ i, i < 4 → (cs.toList.drop (i * 4)).take 4 = (castL (rowsT.getD i [])).map fun z => Value.int .i64 z := by
    intro i h4
    have h1 := hi i h4
    have h2 : (xs.map (·.1))[i]? = some (Lib.tabData .i64 (castL (rowsT.getD i []))) := by
      rw [hxs, List.getElem?_map, List.getD_eq_getElem?_getD]
      have : i < rowsT.length := h4
      rw [List.getElem?_eq_getElem this]; rfl
    rw [List.getElem?_map] at h2
    rcases h3 : xs[i]? with _ | x
    · rw [h3] at h2; cases h2
    · rw [h3] at h2 h1
      have h4 : x.1 = Lib.tabData .i64 (castL (rowsT.getD i [])) := Option.some.inj h2
      obtain ⟨x1, x2⟩ := x
      simp only at h4
      subst h4
      exact Lib.cells_of_tab Tryd.underlying51 Tryd.underlying3 c1 c4 h1
  have hcell := World.var?_cell hg hvar j
  rw [hcell]
  have hq := hrow (j / 4) (by omega)
  have h5 := congrArg (fun l => l[j % 4]?) hq
  simp only [List.getElem?_take, List.getElem?_drop] at h5
  rw [if_pos (by omega), show j / 4 * 4 + j % 4 = j by omega] at h5
  have h6 : ∀ j, j < 16 → ((castL (rowsT.getD (j / 4) [])).map fun z => Value.int .i64 z)[j % 4]? = some (.int .i64 (turn j : Nat)) := by
    intro j hj
    have e : ∀ j, j < 16 → (castL (rowsT.getD (j / 4) []))[j % 4]? = some ((turn j : Nat) : Int) := by decide +kernel
    rw [List.getElem?_map, e j hj]; rfl
  rw [h6 j hj] at h5
  simpa using h5
theorem vo_of {L : List (String × DataW Unit)} {W : World} (h : laidMet Tryd.prog L W) (e1 : L.filter (fun x => x.1 == "tenancy/digest.start") = [("tenancy/digest.start", Rows.laid_tenancy_digest_start)])
    (e2 : L.filter (fun x => x.1 == "tenancy/digest.turns") = [("tenancy/digest.turns", Rows.laid_tenancy_digest_turns)]) (e3 : L.filter (fun x => x.1 == "tenancy/digest.sines") = [("tenancy/digest.sines", Rows.laid_tenancy_digest_sines)]) : VO W :=
  ⟨⟨laid_start (laid_one h e1) 0 (by omega), laid_start (laid_one h e1) 1 (by omega), laid_start (laid_one h e1) 2 (by omega), laid_start (laid_one h e1) 3 (by omega)⟩, fun j hj => laid_turns (laid_one h e2) j hj, fun j hj => laid_sines (laid_one h e3) j hj⟩
end Go.Proofs.YtiickcdkibcdpaaDoor
