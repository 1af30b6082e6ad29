/-
  The contract of GetIA. Condition: a string is no longer than an int.
-/
import Derived.Test.YtcpldojgmboipaaSxY
namespace Go.Proofs.Ytcpldojgmboipaa
open Go.RowKit Go.Joins

def zeroIA : IA := ⟨0, 0, 0, 0, [], 0⟩
/-- what GetIA answers -/
def getE (o : Opt) : Int := match readA o with | .ok _ => 0 | .error x => x
def getV6 (o : Opt) : IA := match readA o with | .ok a => a | .error _ => zeroIA
def GetP (o : Opt) (w : World) (e : Ending) (w' : World) : Prop := ∃ v, e = .returned (.tuple #[AV (getV6 o) v, .int .i64 (getE o)]) ∧ OwnI w' w.heap.size v (getV6 o).has ∧ Below w.heap.size w w'
/-- the memory of GetIA: the boxes of its results -/
structure GMw (w : World) (cs : Array Value) (x : Int) (v : Value) (l : List In) (W : World) : Prop where
  below : Below w.heap.size w W
  res : Bx (w.heap.size + 1) 37 cs W
  err : Bx (w.heap.size + 2) 24 #[.int .i64 x] W
  row : OwnI W (w.heap.size + 3) v l
theorem GMw.step {w : World} {cs : Array Value} {x : Int} {v : Value} {l : List In} {W W2 : World} (h : GMw w cs x v l W) (hb : Below W.heap.size W W2) : GMw w cs x v l W2 := ⟨chain h.below hb, h.res.step hb, h.err.step hb, own_keep h.row hb⟩
theorem GMw.row' {w : World} {cs : Array Value} {x : Int} {v v2 : Value} {l l2 : List In} {W : World} (h : GMw w cs x v l W) (hr : OwnI W (w.heap.size + 3) v2 l2) : GMw w cs x v2 l2 W := ⟨h.below, h.res, h.err, hr⟩
theorem GMw.fail {w : World} {cs : Array Value} {x : Int} {v : Value} {l : List In} {W : World} (h : GMw w cs x v l W) (y : Int) : GMw w cs y v l (W.setCell ⟨w.heap.size + 2, 0, none⟩ (.int .i64 y)) :=
  ⟨h.below.setCell (by show w.heap.size ≤ w.heap.size + 2; omega) _, h.res.other (by show w.heap.size + 1 ≠ w.heap.size + 2; omega) _, h.err.set 0 _, own_fr h.row (fr_set W (w.heap.size + 2) 0 _) (fun g hg e => by have := own_ge h.row g hg.symm; omega)⟩
theorem GMw.put {w : World} {cs cn : Array Value} {x : Int} {v : Value} {l : List In} {W W2 : World} (h : GMw w cs x v l W) (hn : Bx (w.heap.size + 1) 37 cn W2) (hf : Fr (fun k => k = w.heap.size + 1) W W2) : GMw w cn x v l W2 :=
  ⟨h.below.trans (hf.below h.below.size (fun k e => by omega)), hn, h.err.fr hf (by omega), own_fr h.row hf (fun g hg e => by have := own_ge h.row g hg.symm; omega)⟩
theorem gm_new (w : World) (o : Opt) : GMw w zeroA 0 (.slice none 0 0) [] (((w.alloc (.cells #[.int .u16 (o.1.toNat : Int), .string o.2] 40)).alloc (.cells zeroA 37)).alloc (.cells #[.int .i64 0] 24)) := by
  have B := below_alloc w (.cells #[.int .u16 (o.1.toNat : Int), .string o.2] 40)
  have B2 := below_alloc (w.alloc (.cells #[.int .u16 (o.1.toNat : Int), .string o.2] 40)) (.cells zeroA 37)
  have B3 := below_alloc ((w.alloc (.cells #[.int .u16 (o.1.toNat : Int), .string o.2] 40)).alloc (.cells zeroA 37)) (.cells #[.int .i64 0] 24)
  refine ⟨chain (chain B B2) B3, ?_, ?_, ownI_nil _ _⟩
  · have := (bx_new (w.alloc (.cells #[.int .u16 (o.1.toNat : Int), .string o.2] 40)) 37 zeroA).step B3
    simpa using this
  · have := bx_new ((w.alloc (.cells #[.int .u16 (o.1.toNat : Int), .string o.2] 40)).alloc (.cells zeroA 37)) 24 #[.int .i64 0]
    simpa using this
set_option maxRecDepth 100000 in
set_option maxHeartbeats 1000000 in
theorem getIA_any (o : Opt) (hs : o.2.size ≤ maxLen) (w : World) : Calls Try.prog 23 #[OV o] w (GetP o w) := by
  have hmf : ∀ (fn : Fn) (first cap : Array Value) (w : World), (Instr.makeFunc fn first cap).run Try.prog w = .ok (.func fn first cap) w := fun _ _ _ _ => rfl
  have RA := hide (fun W => readIA_any o hs W)
  clear hs
  have G0 := hide (gm_new w o)
  have Z0 : (((w.alloc (.cells #[.int .u16 (o.1.toNat : Int), .string o.2] 40)).alloc (.cells zeroA 37)).alloc (.cells #[.int .i64 0] 24)).heap.size = w.heap.size + 3 := by simp
  go_enter_defers Try.func23, Try.ntmps23
  go_wp2_with fail
  refine (RA.out _).mono ?_
  intro e w2 h2
  unfold RAP at h2
  cases hp : readA o with
  | ok a =>
    rw [hp] at h2
    obtain ⟨v, rfl, q1, q2⟩ := h2
    rw [Z0] at q1
    have G2 := hide ((G0.out.step q2).row' q1)
    have EE := hide (show getE o = 0 by unfold getE; rw [hp])
    have EV := hide (show getV6 o = a by unfold getV6; rw [hp])
    obtain ⟨pv, cv, rfl⟩ := lstI_len (ownI_lst q1)
    clear q1 q2 hp G0 Z0 RA
    go_wp2_with (refine wpList_store_bx rfl (.tmp 2) (.tmp 6) rfl (w.heap.size + 1) _ _ G2.out.res rfl rfl infoIA rfl rfl ?_; intro w3 G F; have G3 := hide (G2.out.put G F); have c0 : w3.cell? ⟨w.heap.size + 1 + 1, 0, none⟩ = some (.int .i64 0) := G3.out.err.cell 0; have f0 : w3.frozen? ⟨w.heap.size + 1 + 1, 0, none⟩ = false := G3.out.err.free 0)
    have G4 := hide (G3.out.fail 0)
    have c4 : (w3.setCell ⟨w.heap.size + 1 + 1, 0, none⟩ (.int .i64 0)).cell? ⟨w.heap.size + 1 + 1, 0, none⟩ = some (.int .i64 0) := G4.out.err.cell 0
    have f4 : (w3.setCell ⟨w.heap.size + 1 + 1, 0, none⟩ (.int .i64 0)).frozen? ⟨w.heap.size + 1 + 1, 0, none⟩ = false := G4.out.err.free 0
    refine leaves_cons (f := 53) (args := #[.pointer (some ⟨w.heap.size + 1 + 1, 0, none⟩)]) (by simp) (by simp [go_sem]) ?_
    refine (catch_idleG ⟨w.heap.size + 1 + 1, 0, none⟩ _ _ c4 f4).mono ?_
    rintro e u' w4 ⟨rfl, rfl, rfl⟩
    have G5 := G4.out.fail 0
    rw [show w.heap.size + 2 = w.heap.size + 1 + 1 from rfl] at G5
    generalize ((w3.setCell ⟨w.heap.size + 1 + 1, 0, none⟩ (.int .i64 0)).setCell ⟨w.heap.size + 1 + 1, 0, none⟩ (.int .i64 0)) = w5 at *
    have y := G5.res.cell
    have y0 := y 0
    have y1 := y 1
    have y2 := y 2
    have y3 := y 3
    have y4 := y 4
    have y5 := y 5
    have z0 : w5.cell? ⟨w.heap.size + 1 + 1, 0, none⟩ = some (.int .i64 0) := G5.err.cell 0
    simp at y0 y1 y2 y3 y4 y5
    refine ⟨.tuple #[AV a (.slice pv a.has.length cv), .int .i64 0], by simp [results, Try.results23, go_sem, y0, y1, y2, y3, y4, y5, z0], .slice pv a.has.length cv, by rw [EE.out, EV.out], by rw [EV.out]; exact ownI_base G5.row (by omega), G5.below⟩
  | error x =>
    rw [hp] at h2
    obtain ⟨rfl, hd⟩ := h2
    have G2 := hide (G0.out.step hd.toBelow)
    have EE := hide (show getE o = x by unfold getE; rw [hp])
    have EV := hide (show getV6 o = zeroIA by unfold getV6; rw [hp])
    clear hd hp G0 Z0 RA
    have c4 : w2.cell? ⟨w.heap.size + 1 + 1, 0, none⟩ = some (.int .i64 0) := G2.out.err.cell 0
    have f4 : w2.frozen? ⟨w.heap.size + 1 + 1, 0, none⟩ = false := G2.out.err.free 0
    refine leaves_cons (f := 53) (args := #[.pointer (some ⟨w.heap.size + 1 + 1, 0, none⟩)]) (by simp) (by simp [go_sem]) ?_
    refine (catch_errG ⟨w.heap.size + 1 + 1, 0, none⟩ _ x [] _ c4 f4).mono ?_
    rintro e u' w4 ⟨rfl, rfl, rfl⟩
    have G5 := G2.out.fail x
    rw [show w.heap.size + 2 = w.heap.size + 1 + 1 from rfl] at G5
    generalize w2.setCell ⟨w.heap.size + 1 + 1, 0, none⟩ (.int .i64 x) = w5 at *
    have y := G5.res.cell
    have y0 := y 0
    have y1 := y 1
    have y2 := y 2
    have y3 := y 3
    have y4 := y 4
    have y5 := y 5
    have z0 : w5.cell? ⟨w.heap.size + 1 + 1, 0, none⟩ = some (.int .i64 x) := G5.err.cell 0
    simp at y0 y1 y2 y3 y4 y5
    refine ⟨.tuple #[AV zeroIA (.slice none 0 0), .int .i64 x], by simp [results, Try.results23, go_sem, y0, y1, y2, y3, y4, y5, z0]; exact ⟨rfl, rfl, rfl, rfl, rfl⟩, .slice none 0 0, by rw [EE.out, EV.out], by rw [EV.out]; exact ownI_nil _ _, G5.below⟩
end Go.Proofs.Ytcpldojgmboipaa
