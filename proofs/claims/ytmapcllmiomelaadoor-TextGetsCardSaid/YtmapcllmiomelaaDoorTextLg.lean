/-
  What the laid variables of a row give the walks: the tables. No condition.
-/
import Derived.Test.YtmapcllmiomelaaDoorTextG9
import Derived.Test.YtmapcllmiomelaaDoorTextGx
import Derived.Test.YtmapcllmiomelaaDoorTie
import Derived.Lib.LaidTab
import Derived.Shelf.Vars
import Derived.Stop.LaidErr
namespace Go.Proofs.YtmapcllmiomelaaDoor
open Go.RowKit Go.Joins

/-- what the row lists -/
abbrev laidAll : List (String × DataW Unit) := Rows.textGetsRow.laid
theorem laid_one {W : World} {n : String} {d : DataW Unit} (h : laidMet Tryd.prog laidAll W) (e : laidAll.filter (fun x => x.1 == n) = [(n, d)]) : laidMet Tryd.prog [(n, d)] W := e ▸ laidMet.filter (fun x => x.1 == n) h
def ints : DataW Unit → List Int
  | .agg xs => xs.map fun | .lit (.int _ z) => z | _ => 0
  | _ => []
theorem laid_pow {W : World} (h : laidMet Tryd.prog laidAll W) : Lib.TabIs Tryd.prog W "internal/strconv.uint64pow10" .u64 Lib.pow10Tab :=
  Lib.tabIs_of_head (g := 3) (rest := []) (by kernel_rfl) (by kernel_rfl) Tryd.underlying131 Tryd.underlying26 (by kernel_rfl) (by kernel_rfl) (laid_one (d := Lib.tabData .u64 Lib.pow10Tab) h (by kernel_rfl))
theorem laid_bruijn {W : World} (h : laidMet Tryd.prog laidAll W) : W.cell? ⟨7, 15, none⟩ = some (.int .u8 4) := by
  have t := Lib.tabIs_of_head (P := Tryd.prog) (W := W) (name := "math/bits.deBruijn64tab") (zs := ints Rows.laid_math_bits_deBruijn64tab) (g := 7) (rest := []) (by kernel_rfl) (by kernel_rfl) Tryd.underlying141 Tryd.underlying5 (by kernel_rfl) (by kernel_rfl) (laid_one (d := Lib.tabData .u8 (ints Rows.laid_math_bits_deBruijn64tab)) h (by kernel_rfl))
  exact t.cell (by kernel_rfl) 15 (by decide)
theorem some_max {W : World} (h : W.ShapedOpen Tryd.prog) : ∃ m : Int, W.cell? ⟨0, 0, none⟩ = some (.int .i64 m) :=
  cell_of_shapedOpen_int (t := 3) (zero := #[.int .i64 0]) h (of_decide_eq_true (by kernel_rfl)) (by kernel_rfl) rfl (by kernel_rfl) (by kernel_rfl) Tryd.underlying3
theorem star_err : "*" ++ "errors.errorString" = "*errors.errorString" := by decide
theorem row_err (u : TypeId) (h : Tryd.prog.typeName? 3 u = some "*errors.errorString") : u = 127 :=
  typeName_ptr_named (nm := "errors.errorString") (by rw [star_err]; kernel_rfl) (by kernel_rfl) (by decide) u (by rw [star_err]; exact h)
theorem cells_err : Tryd.prog.cellsOf 129 = 1 := by kernel_rfl
theorem cells_str : Tryd.prog.cellsOf 9 = 1 := by kernel_rfl
theorem laid_syntax {W : World} (h : laidMet Tryd.prog laidAll W) : ∃ te pe, W.cell? ⟨1, 0, none⟩ = some (.iface te pe) := by
  have hg : Tryd.prog.globalNamed "strconv.ErrSyntax" = some 1 := by kernel_rfl
  obtain ⟨a, s, hv, _⟩ := laid_sentinel (ti := 70) (laid_one (n := "strconv.ErrSyntax") (d := Rows.laid_strconv_ErrSyntax) h (by kernel_rfl)) hg (by kernel_rfl) Tryd.underlying70 row_err Tryd.underlying127 Tryd.underlying129 rfl rfl Tryd.underlying9 cells_err cells_str
  exact ⟨_, _, by simpa using World.var?_cell hg hv 0⟩
theorem laid_range {W : World} (h : laidMet Tryd.prog laidAll W) : ∃ te pe, W.cell? ⟨2, 0, none⟩ = some (.iface te pe) := by
  have hg : Tryd.prog.globalNamed "strconv.ErrRange" = some 2 := by kernel_rfl
  obtain ⟨a, s, hv, _⟩ := laid_sentinel (ti := 70) (laid_one (n := "strconv.ErrRange") (d := Rows.laid_strconv_ErrRange) h (by kernel_rfl)) hg (by kernel_rfl) Tryd.underlying70 row_err Tryd.underlying127 Tryd.underlying129 rfl rfl Tryd.underlying9 cells_err cells_str
  exact ⟨_, _, by simpa using World.var?_cell hg hv 0⟩
/-- WHAT THE ROW's CONDITION AND THE WORLD's SHAPE GIVE THE WALKS -/
theorem vo_of {W : World} (h : laidMetH Tryd.prog laidAll W) (hs : W.ShapedOpen Tryd.prog) : VO W := by
  rw [MakeChecks.laidMetH_plain _ _ _ (by kernel_rfl)] at h
  exact ⟨some_max hs, laid_syntax h, laid_range h, laid_pow h, laid_bruijn h⟩
end Go.Proofs.YtmapcllmiomelaaDoor
