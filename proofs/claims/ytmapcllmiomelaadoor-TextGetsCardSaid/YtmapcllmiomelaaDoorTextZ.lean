/-
  The walk of awake: it returns true. Condition: the library's variables hold what is laid.
-/
import Derived.Test.YtmapcllmiomelaaDoorTextY
namespace Go.Proofs.YtmapcllmiomelaaDoor
open Go.RowKit Go.Joins

theorem via {f : FuncId} {args : Array Value} {w : World} {v v' : Value} (h : Calls Tryd.prog f args w (Gives v w)) (e : v = v') : Calls Tryd.prog f args w (Gives v' w) := e ▸ h
theorem aw4 (w : World) (hv : VO w) : Calls Tryd.prog 8 #[.string ⟨#[49, 57, 50, 46, 49, 54, 56, 46, 49, 46, 53]⟩] w (Gives (.tuple #[.int .u32 3232235781, .bool true]) w) := via (get4_any _ (by unfold Lim; decide) w hv) (by kernel_rfl)
theorem aw6 (w : World) (hv : VO w) : Calls Tryd.prog 10 #[.string ⟨#[50, 48, 48, 49, 58, 68, 66, 56, 58, 58, 49, 58, 48, 58, 48, 58, 49]⟩] w (Gives (.tuple #[.agg #[.int .u64 2306139568115548160, .int .u64 281474976710657], .bool true]) w) := via (get6_any _ (by unfold Lim; decide) w hv) (by kernel_rfl)
theorem awP (w : World) (hv : VO w) : Calls Tryd.prog 14 #[.int .i64 4, .string ⟨#[49, 48, 46, 48, 46, 48, 46, 48, 47, 56]⟩] w (Gives (.tuple #[.agg #[.int .u64 0, .int .u64 167772160, .int .i64 104], .bool true]) w) := via (getprefix_any 4 _ (by unfold Lim; decide) w hv) (by kernel_rfl)
theorem awU (w : World) : Calls Tryd.prog 16 #[.string ⟨#[48, 48, 102, 102]⟩] w (Gives (.tuple #[.string ⟨#[0, 255]⟩, .bool true]) w) := via (unhex_any _ (by unfold Lim; decide) w) (by kernel_rfl)
theorem awN (w : World) (hv : VO w) : Calls Tryd.prog 18 #[.string ⟨#[49, 50]⟩] w (Gives (.tuple #[.int .i64 12, .bool true]) w) := via (getnum_any _ (by unfold Lim; decide) w hv) (by kernel_rfl)
theorem awQ (w : World) (hv : VO w) : Calls Tryd.prog 20 #[.int .u32 3232235781] w (Gives (.string ⟨#[49, 57, 50, 46, 49, 54, 56, 46, 49, 46, 53]⟩) w) := via (put4_any 3232235781 (by decide) w hv) (by kernel_rfl)
theorem awR (w : World) (hv : VO w) : Calls Tryd.prog 21 #[.agg #[.int .u64 2306139568115548160, .int .u64 281474976710657]] w (Gives (.string ⟨#[50, 48, 48, 49, 58, 100, 98, 56, 58, 58, 49, 58, 48, 58, 48, 58, 49]⟩) w) := by
  have h := via (put6_any (a := 42540766411282592856904266426630537217) (by unfold Fits; decide) w hv) (v' := .string ⟨#[50, 48, 48, 49, 58, 100, 98, 56, 58, 58, 49, 58, 48, 58, 48, 58, 49]⟩) (by kernel_rfl)
  rw [show A 42540766411282592856904266426630537217 = .agg #[.int .u64 2306139568115548160, .int .u64 281474976710657] by kernel_rfl] at h
  exact h
theorem awX (w : World) : Calls Tryd.prog 22 #[.string ⟨#[255]⟩] w (Gives (.string ⟨#[102, 102]⟩) w) := via (hex_any _ (by unfold Lim; decide) w) (by kernel_rfl)
theorem awM (w : World) (hv : VO w) : Calls Tryd.prog 25 #[.int .i64 (-3)] w (Gives (.string ⟨#[45, 51]⟩) w) := via (num_any (-3) (by omega) (by omega) w hv) (by kernel_rfl)
/-- the blocks of awake -/
def La (g : Nat) (W : World) : Prop := W.cell? ⟨g, 0, none⟩ = some (.int .u64 2306139568115548160) ∧ W.cell? ⟨g, 1, none⟩ = some (.int .u64 281474976710657)
def Lp (g : Nat) (W : World) : Prop := W.cell? ⟨g, 0, none⟩ = some (.int .u64 0) ∧ W.cell? ⟨g, 1, none⟩ = some (.int .u64 167772160) ∧ W.cell? ⟨g, 2, none⟩ = some (.int .i64 104)
theorem La.step {g : Nat} {W w2 : World} (h : La g W) (hb : Below W.heap.size W w2) : La g w2 := ⟨keep_cell hb h.1, keep_cell hb h.2⟩
theorem Lp.step {g : Nat} {W w2 : World} (h : Lp g W) (hb : Below W.heap.size W w2) : Lp g w2 := ⟨keep_cell hb h.1, keep_cell hb h.2.1, keep_cell hb h.2.2⟩
theorem la_new (w : World) (t : TypeId) : La w.heap.size (w.alloc (.cells #[.int .u64 2306139568115548160, .int .u64 281474976710657] t)) := by constructor <;> simp [go_sem]
theorem lp_new (w : World) (t : TypeId) : Lp w.heap.size (w.alloc (.cells #[.int .u64 0, .int .u64 167772160, .int .i64 104] t)) := by refine ⟨?_, ?_, ?_⟩ <;> simp [go_sem]

set_option maxRecDepth 100000 in
set_option maxHeartbeats 2000000 in
theorem awake2_any (w : World) (hv : VO w) : Calls Tryd.prog 7 #[] w (Gives (.bool true) w) := by
  go_enter Tryd.func7, Tryd.ntmps7
  go_wp2_with fail
  refine (aw4 _ hv).mono ?_
  rintro e w1 ⟨rfl, hb1⟩
  go_wp2_with fail
  refine (aw6 _ (VO.step hb1 hv)).mono ?_
  rintro e w2 ⟨rfl, hb2⟩
  have HB2 := chain hb1 hb2
  clear hb1 hb2
  go_wp2_with fail
  have HB3 := chain HB2 (below_alloc w2 (.cells #[.int .u64 2306139568115548160, .int .u64 281474976710657] 28))
  have A3 := la_new w2 28
  refine (awP _ (VO.step HB3 hv)).mono ?_
  rintro e w3 ⟨rfl, hb3⟩
  have HB4 := chain HB3 hb3
  have A4 := A3.step hb3
  clear hb3 HB3 A3 HB2
  go_wp2_with fail
  have HB5 := chain HB4 (below_alloc w3 (.cells #[.int .u64 0, .int .u64 167772160, .int .i64 104] 33))
  have A5 := A4.step (below_alloc w3 (.cells #[.int .u64 0, .int .u64 167772160, .int .i64 104] 33))
  have P5 := lp_new w3 33
  refine (awU _).mono ?_
  rintro e w6 ⟨rfl, hb6⟩
  have HB6 := chain HB5 hb6
  have A6 := A5.step hb6
  have P6 := P5.step hb6
  clear hb6 HB5 A5 P5
  obtain ⟨a0, a1⟩ := id A6
  obtain ⟨p0, p1, p2⟩ := id P6
  go_wp2_with fail
  clear a0 a1 p0 p1 p2
  refine (awN _ (VO.step HB6 hv)).mono ?_
  rintro e w7 ⟨rfl, hb7⟩
  have HB7 := chain HB6 hb7
  have A7 := A6.step hb7
  have P7 := P6.step hb7
  clear hb7 HB6 A6 P6
  obtain ⟨a0, a1⟩ := id A7
  obtain ⟨p0, p1, p2⟩ := id P7
  go_wp2_with fail
  clear a0 a1 p0 p1 p2
  refine (awQ _ (VO.step HB7 hv)).mono ?_
  rintro e w8 ⟨rfl, hb8⟩
  have HB8 := chain HB7 hb8
  have A8 := A7.step hb8
  have P8 := P7.step hb8
  clear hb8 HB7 A7 P7
  obtain ⟨a0, a1⟩ := id A8
  obtain ⟨p0, p1, p2⟩ := id P8
  go_wp2_with fail
  clear a0 a1 p0 p1 p2
  refine (awR _ (VO.step HB8 hv)).mono ?_
  rintro e w9 ⟨rfl, hb9⟩
  have HB9 := chain HB8 hb9
  have A9 := A8.step hb9
  have P9 := P8.step hb9
  clear hb9 HB8 A8 P8
  obtain ⟨a0, a1⟩ := id A9
  obtain ⟨p0, p1, p2⟩ := id P9
  go_wp2_with fail
  clear a0 a1 p0 p1 p2
  refine (awX _).mono ?_
  rintro e w10 ⟨rfl, hb10⟩
  have HB10 := chain HB9 hb10
  have A10 := A9.step hb10
  have P10 := P9.step hb10
  clear hb10 HB9 A9 P9
  obtain ⟨a0, a1⟩ := id A10
  obtain ⟨p0, p1, p2⟩ := id P10
  go_wp2_with fail
  clear a0 a1 p0 p1 p2
  refine (awM _ (VO.step HB10 hv)).mono ?_
  rintro e w11 ⟨rfl, hb11⟩
  have HB11 := chain HB10 hb11
  have A11 := A10.step hb11
  have P11 := P10.step hb11
  clear hb11 HB10 A10 P10
  obtain ⟨a0, a1⟩ := id A11
  obtain ⟨p0, p1, p2⟩ := id P11
  go_wp2_with fail
  go_ret
  exact ⟨rfl, HB11⟩
end Go.Proofs.YtmapcllmiomelaaDoor
