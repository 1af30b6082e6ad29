/-
  The walk of AddrPrefixes: for all prefix values p, q and every address the law returns true. Condition: the words are words of 64 bits, an int is an int of 64 bits (every value of the types is such).
-/
import Derived.Test.YtlbconflbaohfaaAddrX5
import Derived.Test.YtlbconflbaohfaaAddrX7
import Derived.Test.YtlbconflbaohfaaAddrN
import Derived.BigQuiet
import Derived.Deep.QuietTactic
namespace Go.Proofs.Ytlbconflbaohfaa
open Go.RowKit

abbrev V3 (x y n : Int) : Value := .agg #[.int .u64 x, .int .u64 y, .int .i64 n]
abbrev V4 (x y z t : Int) : Value := .agg #[.int .u64 x, .int .u64 y, .int .u64 z, .int .u64 t]
/-- the three boxes -/
def HP (w : World) (p1 p0 pn q1 q0 qn a1 a0 : Int) (W : World) : Prop := Below w.heap.size w W ∧ Three w.heap.size (.int .u64 p1) (.int .u64 p0) (.int .i64 pn) W ∧ Three (w.heap.size + 1) (.int .u64 q1) (.int .u64 q0) (.int .i64 qn) W ∧ Duo (w.heap.size + 1 + 1) a1 a0 W
theorem HP.step {w : World} {p1 p0 pn q1 q0 qn a1 a0 : Int} {W w2 : World} (hb : Below W.heap.size W w2) (h : HP w p1 p0 pn q1 q0 qn a1 a0 W) : HP w p1 p0 pn q1 q0 qn a1 a0 w2 := ⟨h.1.trans (hb.mono h.1.size), h.2.1.step hb, h.2.2.1.step hb, h.2.2.2.step hb⟩
theorem hp_new (w : World) (p1 p0 pn q1 q0 qn a1 a0 : Int) (t u : TypeId) : HP w p1 p0 pn q1 q0 qn a1 a0 (((w.alloc (.cells #[.int .u64 p1, .int .u64 p0, .int .i64 pn] t)).alloc (.cells #[.int .u64 q1, .int .u64 q0, .int .i64 qn] t)).alloc (.cells #[.int .u64 a1, .int .u64 a0] u)) := by
  refine ⟨((below_alloc w _).alloc (by simp) _).alloc (by simp; omega) _, ((three_new w _ _ _ t).step (below_alloc _ _)).step (below_alloc _ _), ?_, ?_⟩
  · have := (three_new (w.alloc (.cells #[.int .u64 p1, .int .u64 p0, .int .i64 pn] t)) (.int .u64 q1) (.int .u64 q0) (.int .i64 qn) t).step (below_alloc _ (.cells #[.int .u64 a1, .int .u64 a0] u))
    simpa using this
  · have := duo_new ((w.alloc (.cells #[.int .u64 p1, .int .u64 p0, .int .i64 pn] t)).alloc (.cells #[.int .u64 q1, .int .u64 q0, .int .i64 qn] t)) a1 a0 u
    simpa using this
/-- two more blocks of three cells -/
def HX (w : World) (p1 p0 pn q1 q0 qn a1 a0 : Int) (g : Nat) (x y z : Value) (g' : Nat) (x' y' z' : Value) (W : World) : Prop := HP w p1 p0 pn q1 q0 qn a1 a0 W ∧ Three g x y z W ∧ Three g' x' y' z' W
theorem HX.step {w : World} {p1 p0 pn q1 q0 qn a1 a0 : Int} {g g' : Nat} {x y z x' y' z' : Value} {W w2 : World} (hb : Below W.heap.size W w2) (h : HX w p1 p0 pn q1 q0 qn a1 a0 g x y z g' x' y' z' W) : HX w p1 p0 pn q1 q0 qn a1 a0 g x y z g' x' y' z' w2 := ⟨HP.step hb h.1, h.2.1.step hb, h.2.2.step hb⟩
theorem HX.drew {w : World} {p1 p0 pn q1 q0 qn a1 a0 : Int} {g g' : Nat} {x y z x' y' z' : Value} {W : World} (h : HX w p1 p0 pn q1 q0 qn a1 a0 g x y z g' x' y' z' W) : HX w p1 p0 pn q1 q0 qn a1 a0 g x y z g' x' y' z' W.drew := HX.step (below_drew W) h
/-- and two more -/
def HY (w : World) (p1 p0 pn q1 q0 qn a1 a0 : Int) (g : Nat) (x y z : Value) (h : Nat) (x' y' z' : Value) (W : World) : Prop := HP w p1 p0 pn q1 q0 qn a1 a0 W ∧ (Three g x y z W ∧ Three (g + 1) x' y' z' W) ∧ (Three h x y z W ∧ Three (h + 1) x' y' z' W)
theorem HY.step {w : World} {p1 p0 pn q1 q0 qn a1 a0 : Int} {g g' : Nat} {x y z x' y' z' : Value} {W w2 : World} (hb : Below W.heap.size W w2) (h : HY w p1 p0 pn q1 q0 qn a1 a0 g x y z g' x' y' z' W) : HY w p1 p0 pn q1 q0 qn a1 a0 g x y z g' x' y' z' w2 := ⟨HP.step hb h.1, ⟨h.2.1.1.step hb, h.2.1.2.step hb⟩, h.2.2.1.step hb, h.2.2.2.step hb⟩
theorem HY.drew {w : World} {p1 p0 pn q1 q0 qn a1 a0 : Int} {g g' : Nat} {x y z x' y' z' : Value} {W : World} (h : HY w p1 p0 pn q1 q0 qn a1 a0 g x y z g' x' y' z' W) : HY w p1 p0 pn q1 q0 qn a1 a0 g x y z g' x' y' z' W.drew := HY.step (below_drew W) h
theorem pair_new (V : World) (x y z x' y' z' : Value) (t : TypeId) : Three V.heap.size x y z ((V.alloc (.cells #[x, y, z] t)).alloc (.cells #[x', y', z'] t)) ∧ Three (V.heap.size + 1) x' y' z' ((V.alloc (.cells #[x, y, z] t)).alloc (.cells #[x', y', z'] t)) := by
  refine ⟨(three_new V x y z t).step (below_alloc _ _), ?_⟩
  have := three_new (V.alloc (.cells #[x, y, z] t)) x' y' z' t
  simpa using this

set_option maxRecDepth 100000 in
set_option maxHeartbeats 1000000 in
theorem prefixes_walk (p1 p0 pn q1 q0 qn a1 a0 c1 c0 cn f1 f0 l1 l0 x1 x0 xn y1 y0 yn : Int) (co so eo ho ko mo : Bool)
    (CU : Hid (∀ v : World, Calls Try.prog 27 #[V2 a1 a0, .int .i64 pn] v (Gives (.tuple #[V3 c1 c0 cn, .bool co]) v)))
    (CZ : Hid (∀ v : World, Calls Try.prog 28 #[V2 a1 a0, .int .i64 pn] v (Gives (.tuple #[V3 c1 c0 cn, .bool co]) v)))
    (SU : Hid (∀ v : World, Calls Try.prog 29 #[V3 p1 p0 pn] v (Gives (.bool so) v)))
    (SZ : Hid (∀ v : World, Calls Try.prog 30 #[V3 p1 p0 pn] v (Gives (.bool so) v)))
    (RU : Hid (∀ v : World, Calls Try.prog 31 #[V3 p1 p0 pn] v (Gives (V4 f1 f0 l1 l0) v)))
    (RZ : Hid (∀ v : World, Calls Try.prog 32 #[V3 p1 p0 pn] v (Gives (V4 f1 f0 l1 l0) v)))
    (EU : Hid (∀ v : World, Calls Try.prog 33 #[V3 p1 p0 pn] v (Gives (.tuple #[V3 x1 x0 xn, V3 y1 y0 yn, .bool eo]) v)))
    (EZ : Hid (∀ v : World, Calls Try.prog 34 #[V3 p1 p0 pn] v (Gives (.tuple #[V3 x1 x0 xn, V3 y1 y0 yn, .bool eo]) v)))
    (HU : Hid (∀ v : World, Calls Try.prog 35 #[V3 p1 p0 pn, V2 a1 a0] v (Gives (.bool ho) v)))
    (HZ : Hid (∀ v : World, Calls Try.prog 36 #[V3 p1 p0 pn, V2 a1 a0] v (Gives (.bool ho) v)))
    (KU : Hid (∀ v : World, Calls Try.prog 37 #[V3 p1 p0 pn, V3 q1 q0 qn] v (Gives (.bool ko) v)))
    (KZ : Hid (∀ v : World, Calls Try.prog 38 #[V3 p1 p0 pn, V3 q1 q0 qn] v (Gives (.bool ko) v)))
    (MU : Hid (∀ v : World, Calls Try.prog 39 #[V3 p1 p0 pn, V3 q1 q0 qn] v (Gives (.bool mo) v)))
    (MZ : Hid (∀ v : World, Calls Try.prog 40 #[V3 p1 p0 pn, V3 q1 q0 qn] v (Gives (.bool mo) v)))
    (w : World) : Calls Try.prog 4 #[V3 p1 p0 pn, V3 q1 q0 qn, V2 a1 a0] w (Gives (.bool true) w) := by
  go_enter Try.func4, Try.ntmps4
  go_wp2_with fail
  refine (awake_any _).mono ?_
  rintro e w1 ⟨rfl, hb1⟩
  have HH1 := HP.step hb1 (hp_new w p1 p0 pn q1 q0 qn a1 a0 _ _)
  clear hb1
  obtain ⟨HB, ⟨pa, pb, pc, pd, pe, pf, pg⟩, ⟨qa, qb, qc, qd, qe, qf, qg⟩, ⟨aa, ab, ac, ad, ae⟩⟩ := id HH1
  go_wp2_with fail
  refine (CU.out _).mono ?_
  rintro e w2 ⟨rfl, hb2⟩
  clear HB pa pb pc pd pe pf pg qa qb qc qd qe qf qg aa ab ac ad ae
  have HH2 := HP.step hb2 HH1
  clear hb2 HH1
  obtain ⟨HB, ⟨pa, pb, pc, pd, pe, pf, pg⟩, ⟨qa, qb, qc, qd, qe, qf, qg⟩, ⟨aa, ab, ac, ad, ae⟩⟩ := id HH2
  go_wp2_with fail
  refine (CZ.out _).mono ?_
  rintro e w3 ⟨rfl, hb3⟩
  clear HB pa pb pc pd pe pf pg qa qb qc qd qe qf qg aa ab ac ad ae
  have P3 := (three_new w2 (.int .u64 c1) (.int .u64 c0) (.int .i64 cn) _).step hb3
  have HH3 := HP.step hb3 (HP.step (below_alloc _ _) HH2)
  clear hb3 HH2
  obtain ⟨HB, ⟨pa, pb, pc, pd, pe, pf, pg⟩, ⟨qa, qb, qc, qd, qe, qf, qg⟩, ⟨aa, ab, ac, ad, ae⟩⟩ := id HH3
  obtain ⟨xa, xb, xc, xd, xe, xf, xg⟩ := id P3
  go_wp2_with fail
  clear HB pa pb pc pd pe pf pg qa qb qc qd qe qf qg aa ab ac ad ae
  clear xa xb xc xd xe xf xg
  have HH4 : HX w p1 p0 pn q1 q0 qn a1 a0 w2.heap.size (.int .u64 c1) (.int .u64 c0) (.int .i64 cn) w3.heap.size (.int .u64 c1) (.int .u64 c0) (.int .i64 cn) (w3.alloc (.cells #[.int .u64 c1, .int .u64 c0, .int .i64 cn] 36)) := ⟨HP.step (below_alloc _ _) HH3, P3.step (below_alloc _ _), three_new w3 _ _ _ _⟩
  clear HH3 P3
  refine wp_region_quiet (C := HX w p1 p0 pn q1 q0 qn a1 a0 w2.heap.size (.int .u64 c1) (.int .u64 c0) (.int .i64 cn) w3.heap.size (.int .u64 c1) (.int .u64 c0) (.int .i64 cn)) (by kernel_rfl) (by kernel_rfl) (HX.drew HH4) ?_
  refine wpQuiet_step (fun K hK => ?_)
  go_simp
  refine ⟨V3 c1 c0 cn, fun W hW => ?_, hK _ ?_⟩
  · (obtain ⟨⟨_, ⟨k0, k1, k2, _⟩, ⟨j0, j1, j2, _⟩, i0, i1, _⟩, ⟨g0, g1, g2, _⟩, h0, h1, h2, _⟩ := hW; simp [go_sem, g0, g1, g2])
  clear hK K
  refine wpQuiet_step (fun K hK => ?_)
  go_simp
  refine ⟨V3 c1 c0 cn, fun W hW => ?_, hK _ ?_⟩
  · (obtain ⟨⟨_, ⟨k0, k1, k2, _⟩, ⟨j0, j1, j2, _⟩, i0, i1, _⟩, ⟨g0, g1, g2, _⟩, h0, h1, h2, _⟩ := hW; simp [go_sem, h0, h1, h2])
  clear hK K
  refine wpQuiet_step (fun K hK => ?_)
  go_simp
  first | refine ⟨_, fun _ _ => rfl, hK _ ?_⟩ | refine hK _ ?_
  clear hK K
  refine wpQuiet_step (fun K hK => ?_)
  go_simp
  first | refine ⟨_, fun _ _ => rfl, hK _ ?_⟩ | refine hK _ ?_
  clear hK K
  refine wpQuiet_step (fun K hK => ?_)
  go_simp
  first | refine ⟨_, fun _ _ => rfl, hK _ ?_⟩ | refine hK _ ?_
  clear hK K
  refine wpQuiet_step (fun K hK => ?_)
  go_simp
  first | refine ⟨_, fun _ _ => rfl, hK _ ?_⟩ | refine hK _ ?_
  clear hK K
  refine wpQuiet_step (fun K hK => ?_)
  go_simp
  first | refine ⟨_, fun _ _ => rfl, hK _ ?_⟩ | refine hK _ ?_
  clear hK K
  refine wpQuiet_step (fun K hK => ?_)
  go_simp
  first | refine ⟨_, fun _ _ => rfl, hK _ ?_⟩ | refine hK _ ?_
  clear hK K
  refine wpQuiet_step (fun K hK => ?_)
  go_simp
  first | refine ⟨_, fun _ _ => rfl, hK _ ?_⟩ | refine hK _ ?_
  clear hK K
  refine wpQuiet_step (fun K hK => ?_)
  go_simp
  refine ⟨V3 p1 p0 pn, fun W hW => ?_, hK _ ?_⟩
  · (obtain ⟨⟨_, ⟨k0, k1, k2, _⟩, ⟨j0, j1, j2, _⟩, i0, i1, _⟩, ⟨g0, g1, g2, _⟩, h0, h1, h2, _⟩ := hW; simp [go_sem, k0, k1, k2])
  clear hK K
  refine wpQuiet_step (fun K hK => ?_)
  go_simp
  refine ⟨.bool so, fun W hW => ?_, hK _ ?_⟩
  · exact (SU.out W).mono fun e w2 ⟨he, hb⟩ => ⟨he, HX.step hb hW⟩
  clear hK K
  refine wpQuiet_step (fun K hK => ?_)
  go_simp
  refine ⟨V3 p1 p0 pn, fun W hW => ?_, hK _ ?_⟩
  · (obtain ⟨⟨_, ⟨k0, k1, k2, _⟩, ⟨j0, j1, j2, _⟩, i0, i1, _⟩, ⟨g0, g1, g2, _⟩, h0, h1, h2, _⟩ := hW; simp [go_sem, k0, k1, k2])
  clear hK K
  refine wpQuiet_step (fun K hK => ?_)
  go_simp
  refine ⟨.bool so, fun W hW => ?_, hK _ ?_⟩
  · exact (SZ.out W).mono fun e w2 ⟨he, hb⟩ => ⟨he, HX.step hb hW⟩
  clear hK K
  refine wpQuiet_step (fun K hK => ?_)
  go_simp
  first | refine ⟨_, fun _ _ => rfl, hK _ ?_⟩ | refine hK _ ?_
  clear hK K
  refine wpQuiet_step (fun K hK => ?_)
  go_simp
  first | refine ⟨_, fun _ _ => rfl, hK _ ?_⟩ | refine hK _ ?_
  clear hK K
  refine wpQuiet_step (fun K hK => ?_)
  go_simp
  first | refine ⟨_, fun _ _ => rfl, hK _ ?_⟩ | refine hK _ ?_
  clear hK K
  refine wpQuiet_step (fun K hK => ?_)
  go_simp
  refine ⟨V3 p1 p0 pn, fun W hW => ?_, hK _ ?_⟩
  · (obtain ⟨⟨_, ⟨k0, k1, k2, _⟩, ⟨j0, j1, j2, _⟩, i0, i1, _⟩, ⟨g0, g1, g2, _⟩, h0, h1, h2, _⟩ := hW; simp [go_sem, k0, k1, k2])
  clear hK K
  refine wpQuiet_step (fun K hK => ?_)
  go_simp
  refine ⟨V4 f1 f0 l1 l0, fun W hW => ?_, hK _ ?_⟩
  · exact (RU.out W).mono fun e w2 ⟨he, hb⟩ => ⟨he, HX.step hb hW⟩
  clear hK K
  refine wpQuiet_step (fun K hK => ?_)
  go_simp
  refine ⟨V3 p1 p0 pn, fun W hW => ?_, hK _ ?_⟩
  · (obtain ⟨⟨_, ⟨k0, k1, k2, _⟩, ⟨j0, j1, j2, _⟩, i0, i1, _⟩, ⟨g0, g1, g2, _⟩, h0, h1, h2, _⟩ := hW; simp [go_sem, k0, k1, k2])
  clear hK K
  refine wpQuiet_step (fun K hK => ?_)
  go_simp
  refine ⟨V4 f1 f0 l1 l0, fun W hW => ?_, hK _ ?_⟩
  · exact (RZ.out W).mono fun e w2 ⟨he, hb⟩ => ⟨he, HX.step hb hW⟩
  clear hK K
  refine wpQuiet_step (fun K hK => ?_)
  go_simp
  first | refine ⟨_, fun _ _ => rfl, hK _ ?_⟩ | refine hK _ ?_
  clear hK K
  refine wpQuiet_step (fun K hK => ?_)
  go_simp
  first | refine ⟨_, fun _ _ => rfl, hK _ ?_⟩ | refine hK _ ?_
  clear hK K
  refine wpQuiet_nil ?_
  intro w4 HF
  have HH5 := HF.1
  clear HF HH4
  obtain ⟨HB, ⟨pa, pb, pc, pd, pe, pf, pg⟩, ⟨qa, qb, qc, qd, qe, qf, qg⟩, ⟨aa, ab, ac, ad, ae⟩⟩ := id HH5
  go_wp2_with fail
  refine (EU.out _).mono ?_
  rintro e w6 ⟨rfl, hb6⟩
  clear HB pa pb pc pd pe pf pg qa qb qc qd qe qf qg aa ab ac ad ae
  have HH6 := HP.step hb6 HH5
  clear hb6 HH5
  obtain ⟨HB, ⟨pa, pb, pc, pd, pe, pf, pg⟩, ⟨qa, qb, qc, qd, qe, qf, qg⟩, ⟨aa, ab, ac, ad, ae⟩⟩ := id HH6
  go_wp2_with fail
  refine (EZ.out _).mono ?_
  rintro e w7 ⟨rfl, hb7⟩
  clear HB pa pb pc pd pe pf pg qa qb qc qd qe qf qg aa ab ac ad ae
  have P7 := pair_new w6 (.int .u64 x1) (.int .u64 x0) (.int .i64 xn) (.int .u64 y1) (.int .u64 y0) (.int .i64 yn) 36
  have P7 := And.intro (P7.1.step hb7) (P7.2.step hb7)
  have HH7 := HP.step hb7 (HP.step (below_alloc _ _) (HP.step (below_alloc _ _) HH6))
  clear hb7 HH6
  obtain ⟨HB, ⟨pa, pb, pc, pd, pe, pf, pg⟩, ⟨qa, qb, qc, qd, qe, qf, qg⟩, ⟨aa, ab, ac, ad, ae⟩⟩ := id HH7
  obtain ⟨⟨xa, xb, xc, xd, xe, xf, xg⟩, ya, yb, yc, yd, ye, yf, yg⟩ := id P7
  go_wp2_with fail
  clear HB pa pb pc pd pe pf pg qa qb qc qd qe qf qg aa ab ac ad ae
  clear xa xb xc xd xe xf xg ya yb yc yd ye yf yg
  have P8 := pair_new w7 (.int .u64 x1) (.int .u64 x0) (.int .i64 xn) (.int .u64 y1) (.int .u64 y0) (.int .i64 yn) 36
  have HH8 : HY w p1 p0 pn q1 q0 qn a1 a0 w6.heap.size (.int .u64 x1) (.int .u64 x0) (.int .i64 xn) w7.heap.size (.int .u64 y1) (.int .u64 y0) (.int .i64 yn) ((w7.alloc (.cells #[.int .u64 x1, .int .u64 x0, .int .i64 xn] 36)).alloc (.cells #[.int .u64 y1, .int .u64 y0, .int .i64 yn] 36)) := ⟨HP.step (below_alloc _ _) (HP.step (below_alloc _ _) HH7), ⟨(P7.1.step (below_alloc _ _)).step (below_alloc _ _), (P7.2.step (below_alloc _ _)).step (below_alloc _ _)⟩, P8⟩
  clear HH7 P7 P8
  refine wp_region_quiet (C := HY w p1 p0 pn q1 q0 qn a1 a0 w6.heap.size (.int .u64 x1) (.int .u64 x0) (.int .i64 xn) w7.heap.size (.int .u64 y1) (.int .u64 y0) (.int .i64 yn)) (by kernel_rfl) (by kernel_rfl) (HY.drew HH8) ?_
  refine wpQuiet_step (fun K hK => ?_)
  go_simp
  refine ⟨V3 x1 x0 xn, fun W hW => ?_, hK _ ?_⟩
  · (obtain ⟨⟨_, ⟨k0, k1, k2, _⟩, ⟨j0, j1, j2, _⟩, i0, i1, _⟩, ⟨⟨g0, g1, g2, _⟩, ⟨h0, h1, h2, _⟩⟩, ⟨e0, e1, e2, _⟩, ⟨d0, d1, d2, _⟩⟩ := hW; simp [go_sem, g0, g1, g2])
  clear hK K
  refine wpQuiet_step (fun K hK => ?_)
  go_simp
  refine ⟨V3 x1 x0 xn, fun W hW => ?_, hK _ ?_⟩
  · (obtain ⟨⟨_, ⟨k0, k1, k2, _⟩, ⟨j0, j1, j2, _⟩, i0, i1, _⟩, ⟨⟨g0, g1, g2, _⟩, ⟨h0, h1, h2, _⟩⟩, ⟨e0, e1, e2, _⟩, ⟨d0, d1, d2, _⟩⟩ := hW; simp [go_sem, e0, e1, e2])
  clear hK K
  refine wpQuiet_step (fun K hK => ?_)
  go_simp
  first | refine ⟨_, fun _ _ => rfl, hK _ ?_⟩ | refine hK _ ?_
  clear hK K
  refine wpQuiet_step (fun K hK => ?_)
  go_simp
  first | refine ⟨_, fun _ _ => rfl, hK _ ?_⟩ | refine hK _ ?_
  clear hK K
  refine wpQuiet_step (fun K hK => ?_)
  go_simp
  refine ⟨V3 y1 y0 yn, fun W hW => ?_, hK _ ?_⟩
  · (obtain ⟨⟨_, ⟨k0, k1, k2, _⟩, ⟨j0, j1, j2, _⟩, i0, i1, _⟩, ⟨⟨g0, g1, g2, _⟩, ⟨h0, h1, h2, _⟩⟩, ⟨e0, e1, e2, _⟩, ⟨d0, d1, d2, _⟩⟩ := hW; simp [go_sem, h0, h1, h2])
  clear hK K
  refine wpQuiet_step (fun K hK => ?_)
  go_simp
  refine ⟨V3 y1 y0 yn, fun W hW => ?_, hK _ ?_⟩
  · (obtain ⟨⟨_, ⟨k0, k1, k2, _⟩, ⟨j0, j1, j2, _⟩, i0, i1, _⟩, ⟨⟨g0, g1, g2, _⟩, ⟨h0, h1, h2, _⟩⟩, ⟨e0, e1, e2, _⟩, ⟨d0, d1, d2, _⟩⟩ := hW; simp [go_sem, d0, d1, d2])
  clear hK K
  refine wpQuiet_step (fun K hK => ?_)
  go_simp
  first | refine ⟨_, fun _ _ => rfl, hK _ ?_⟩ | refine hK _ ?_
  clear hK K
  refine wpQuiet_step (fun K hK => ?_)
  go_simp
  first | refine ⟨_, fun _ _ => rfl, hK _ ?_⟩ | refine hK _ ?_
  clear hK K
  refine wpQuiet_step (fun K hK => ?_)
  go_simp
  first | refine ⟨_, fun _ _ => rfl, hK _ ?_⟩ | refine hK _ ?_
  clear hK K
  refine wpQuiet_step (fun K hK => ?_)
  go_simp
  first | refine ⟨_, fun _ _ => rfl, hK _ ?_⟩ | refine hK _ ?_
  clear hK K
  refine wpQuiet_step (fun K hK => ?_)
  go_simp
  first | refine ⟨_, fun _ _ => rfl, hK _ ?_⟩ | refine hK _ ?_
  clear hK K
  refine wpQuiet_step (fun K hK => ?_)
  go_simp
  first | refine ⟨_, fun _ _ => rfl, hK _ ?_⟩ | refine hK _ ?_
  clear hK K
  refine wpQuiet_step (fun K hK => ?_)
  go_simp
  first | refine ⟨_, fun _ _ => rfl, hK _ ?_⟩ | refine hK _ ?_
  clear hK K
  refine wpQuiet_step (fun K hK => ?_)
  go_simp
  first | refine ⟨_, fun _ _ => rfl, hK _ ?_⟩ | refine hK _ ?_
  clear hK K
  refine wpQuiet_step (fun K hK => ?_)
  go_simp
  refine ⟨V3 p1 p0 pn, fun W hW => ?_, hK _ ?_⟩
  · (obtain ⟨⟨_, ⟨k0, k1, k2, _⟩, ⟨j0, j1, j2, _⟩, i0, i1, _⟩, ⟨⟨g0, g1, g2, _⟩, ⟨h0, h1, h2, _⟩⟩, ⟨e0, e1, e2, _⟩, ⟨d0, d1, d2, _⟩⟩ := hW; simp [go_sem, k0, k1, k2])
  clear hK K
  refine wpQuiet_step (fun K hK => ?_)
  go_simp
  refine ⟨V2 a1 a0, fun W hW => ?_, hK _ ?_⟩
  · (obtain ⟨⟨_, ⟨k0, k1, k2, _⟩, ⟨j0, j1, j2, _⟩, i0, i1, _⟩, ⟨⟨g0, g1, g2, _⟩, ⟨h0, h1, h2, _⟩⟩, ⟨e0, e1, e2, _⟩, ⟨d0, d1, d2, _⟩⟩ := hW; simp [go_sem, i0, i1])
  clear hK K
  refine wpQuiet_step (fun K hK => ?_)
  go_simp
  refine ⟨.bool ho, fun W hW => ?_, hK _ ?_⟩
  · exact (HU.out W).mono fun e w2 ⟨he, hb⟩ => ⟨he, HY.step hb hW⟩
  clear hK K
  refine wpQuiet_step (fun K hK => ?_)
  go_simp
  refine ⟨V3 p1 p0 pn, fun W hW => ?_, hK _ ?_⟩
  · (obtain ⟨⟨_, ⟨k0, k1, k2, _⟩, ⟨j0, j1, j2, _⟩, i0, i1, _⟩, ⟨⟨g0, g1, g2, _⟩, ⟨h0, h1, h2, _⟩⟩, ⟨e0, e1, e2, _⟩, ⟨d0, d1, d2, _⟩⟩ := hW; simp [go_sem, k0, k1, k2])
  clear hK K
  refine wpQuiet_step (fun K hK => ?_)
  go_simp
  refine ⟨V2 a1 a0, fun W hW => ?_, hK _ ?_⟩
  · (obtain ⟨⟨_, ⟨k0, k1, k2, _⟩, ⟨j0, j1, j2, _⟩, i0, i1, _⟩, ⟨⟨g0, g1, g2, _⟩, ⟨h0, h1, h2, _⟩⟩, ⟨e0, e1, e2, _⟩, ⟨d0, d1, d2, _⟩⟩ := hW; simp [go_sem, i0, i1])
  clear hK K
  refine wpQuiet_step (fun K hK => ?_)
  go_simp
  refine ⟨.bool ho, fun W hW => ?_, hK _ ?_⟩
  · exact (HZ.out W).mono fun e w2 ⟨he, hb⟩ => ⟨he, HY.step hb hW⟩
  clear hK K
  refine wpQuiet_step (fun K hK => ?_)
  go_simp
  first | refine ⟨_, fun _ _ => rfl, hK _ ?_⟩ | refine hK _ ?_
  clear hK K
  refine wpQuiet_step (fun K hK => ?_)
  go_simp
  first | refine ⟨_, fun _ _ => rfl, hK _ ?_⟩ | refine hK _ ?_
  clear hK K
  refine wpQuiet_step (fun K hK => ?_)
  go_simp
  first | refine ⟨_, fun _ _ => rfl, hK _ ?_⟩ | refine hK _ ?_
  clear hK K
  refine wpQuiet_step (fun K hK => ?_)
  go_simp
  refine ⟨V3 p1 p0 pn, fun W hW => ?_, hK _ ?_⟩
  · (obtain ⟨⟨_, ⟨k0, k1, k2, _⟩, ⟨j0, j1, j2, _⟩, i0, i1, _⟩, ⟨⟨g0, g1, g2, _⟩, ⟨h0, h1, h2, _⟩⟩, ⟨e0, e1, e2, _⟩, ⟨d0, d1, d2, _⟩⟩ := hW; simp [go_sem, k0, k1, k2])
  clear hK K
  refine wpQuiet_step (fun K hK => ?_)
  go_simp
  refine ⟨V3 q1 q0 qn, fun W hW => ?_, hK _ ?_⟩
  · (obtain ⟨⟨_, ⟨k0, k1, k2, _⟩, ⟨j0, j1, j2, _⟩, i0, i1, _⟩, ⟨⟨g0, g1, g2, _⟩, ⟨h0, h1, h2, _⟩⟩, ⟨e0, e1, e2, _⟩, ⟨d0, d1, d2, _⟩⟩ := hW; simp [go_sem, j0, j1, j2])
  clear hK K
  refine wpQuiet_step (fun K hK => ?_)
  go_simp
  refine ⟨.bool ko, fun W hW => ?_, hK _ ?_⟩
  · exact (KU.out W).mono fun e w2 ⟨he, hb⟩ => ⟨he, HY.step hb hW⟩
  clear hK K
  refine wpQuiet_step (fun K hK => ?_)
  go_simp
  refine ⟨V3 p1 p0 pn, fun W hW => ?_, hK _ ?_⟩
  · (obtain ⟨⟨_, ⟨k0, k1, k2, _⟩, ⟨j0, j1, j2, _⟩, i0, i1, _⟩, ⟨⟨g0, g1, g2, _⟩, ⟨h0, h1, h2, _⟩⟩, ⟨e0, e1, e2, _⟩, ⟨d0, d1, d2, _⟩⟩ := hW; simp [go_sem, k0, k1, k2])
  clear hK K
  refine wpQuiet_step (fun K hK => ?_)
  go_simp
  refine ⟨V3 q1 q0 qn, fun W hW => ?_, hK _ ?_⟩
  · (obtain ⟨⟨_, ⟨k0, k1, k2, _⟩, ⟨j0, j1, j2, _⟩, i0, i1, _⟩, ⟨⟨g0, g1, g2, _⟩, ⟨h0, h1, h2, _⟩⟩, ⟨e0, e1, e2, _⟩, ⟨d0, d1, d2, _⟩⟩ := hW; simp [go_sem, j0, j1, j2])
  clear hK K
  refine wpQuiet_step (fun K hK => ?_)
  go_simp
  refine ⟨.bool ko, fun W hW => ?_, hK _ ?_⟩
  · exact (KZ.out W).mono fun e w2 ⟨he, hb⟩ => ⟨he, HY.step hb hW⟩
  clear hK K
  refine wpQuiet_step (fun K hK => ?_)
  go_simp
  first | refine ⟨_, fun _ _ => rfl, hK _ ?_⟩ | refine hK _ ?_
  clear hK K
  refine wpQuiet_step (fun K hK => ?_)
  go_simp
  first | refine ⟨_, fun _ _ => rfl, hK _ ?_⟩ | refine hK _ ?_
  clear hK K
  refine wpQuiet_step (fun K hK => ?_)
  go_simp
  first | refine ⟨_, fun _ _ => rfl, hK _ ?_⟩ | refine hK _ ?_
  clear hK K
  refine wpQuiet_step (fun K hK => ?_)
  go_simp
  refine ⟨V3 p1 p0 pn, fun W hW => ?_, hK _ ?_⟩
  · (obtain ⟨⟨_, ⟨k0, k1, k2, _⟩, ⟨j0, j1, j2, _⟩, i0, i1, _⟩, ⟨⟨g0, g1, g2, _⟩, ⟨h0, h1, h2, _⟩⟩, ⟨e0, e1, e2, _⟩, ⟨d0, d1, d2, _⟩⟩ := hW; simp [go_sem, k0, k1, k2])
  clear hK K
  refine wpQuiet_step (fun K hK => ?_)
  go_simp
  refine ⟨V3 q1 q0 qn, fun W hW => ?_, hK _ ?_⟩
  · (obtain ⟨⟨_, ⟨k0, k1, k2, _⟩, ⟨j0, j1, j2, _⟩, i0, i1, _⟩, ⟨⟨g0, g1, g2, _⟩, ⟨h0, h1, h2, _⟩⟩, ⟨e0, e1, e2, _⟩, ⟨d0, d1, d2, _⟩⟩ := hW; simp [go_sem, j0, j1, j2])
  clear hK K
  refine wpQuiet_step (fun K hK => ?_)
  go_simp
  refine ⟨.bool mo, fun W hW => ?_, hK _ ?_⟩
  · exact (MU.out W).mono fun e w2 ⟨he, hb⟩ => ⟨he, HY.step hb hW⟩
  clear hK K
  refine wpQuiet_step (fun K hK => ?_)
  go_simp
  refine ⟨V3 p1 p0 pn, fun W hW => ?_, hK _ ?_⟩
  · (obtain ⟨⟨_, ⟨k0, k1, k2, _⟩, ⟨j0, j1, j2, _⟩, i0, i1, _⟩, ⟨⟨g0, g1, g2, _⟩, ⟨h0, h1, h2, _⟩⟩, ⟨e0, e1, e2, _⟩, ⟨d0, d1, d2, _⟩⟩ := hW; simp [go_sem, k0, k1, k2])
  clear hK K
  refine wpQuiet_step (fun K hK => ?_)
  go_simp
  refine ⟨V3 q1 q0 qn, fun W hW => ?_, hK _ ?_⟩
  · (obtain ⟨⟨_, ⟨k0, k1, k2, _⟩, ⟨j0, j1, j2, _⟩, i0, i1, _⟩, ⟨⟨g0, g1, g2, _⟩, ⟨h0, h1, h2, _⟩⟩, ⟨e0, e1, e2, _⟩, ⟨d0, d1, d2, _⟩⟩ := hW; simp [go_sem, j0, j1, j2])
  clear hK K
  refine wpQuiet_step (fun K hK => ?_)
  go_simp
  refine ⟨.bool mo, fun W hW => ?_, hK _ ?_⟩
  · exact (MZ.out W).mono fun e w2 ⟨he, hb⟩ => ⟨he, HY.step hb hW⟩
  clear hK K
  refine wpQuiet_step (fun K hK => ?_)
  go_simp
  first | refine ⟨_, fun _ _ => rfl, hK _ ?_⟩ | refine hK _ ?_
  clear hK K
  refine wpQuiet_step (fun K hK => ?_)
  go_simp
  first | refine ⟨_, fun _ _ => rfl, hK _ ?_⟩ | refine hK _ ?_
  clear hK K
  refine wpQuiet_step (fun K hK => ?_)
  go_simp
  first | refine ⟨_, fun _ _ => rfl, hK _ ?_⟩ | refine hK _ ?_
  clear hK K
  refine wpQuiet_nil ?_
  intro wx HF
  go_wp2_with fail
  go_ret
  exact ⟨rfl, HF.1.1⟩

theorem prefixes_any {p q a : Nat} (hp : Fits p) (hq : Fits q) (ha : Fits a) (n m : Int) (w : World) : Calls Try.prog 4 #[Pv p n, Pv q m, A a] w (Gives (.bool true) w) :=
  prefixes_walk _ _ _ _ _ _ _ _ _ _ _ _ _ _ _ _ _ _ _ _ _ _ _ _ _ _ _ (hide (clip_any ha n)) (hide (rclip_any ha n)) (hide (sound_any hp n)) (hide (rsound_any hp n)) (hide (span_any hp n)) (hide (rspan_any hp n)) (hide (halves_any hp n)) (hide (rhalves_any hp n)) (hide (has_any ha n)) (hide (rhas_any hp ha n)) (hide (covers_any hq n m)) (hide (rcovers_any hp hq n m)) (hide (meets_any hp hq n m)) (hide (rmeets_any hp hq n m)) w
end Go.Proofs.Ytlbconflbaohfaa
