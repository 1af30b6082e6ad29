/-
  Where a reading gave up: fault, the deferred functions, Parse. Condition: a string is no longer than an int.
-/
import Derived.Test.YtcpldojgmboipaaSxP
namespace Go.Proofs.Ytcpldojgmboipaa
open Go.RowKit Go.Joins

theorem fault_nil (w : World) : Calls Try.prog 27 #[.nilIface] w (Same (.int .i64 0) w) := by
  have E : ∀ W : World, (binOp BinOp.eql 20 .nilIface .nilIface).run Try.prog W = .ok (.bool true) W := fun _ => by kernel_rfl
  go_enter Try.func27, Try.ntmps27
  go_wp2
  go_ret
  exact ⟨rfl, rfl⟩
theorem fault_err (x : Int) (w : World) : Calls Try.prog 27 #[.iface 24 (.int .i64 x)] w (Same (.int .i64 x) w) := by
  have E : ∀ W : World, (binOp BinOp.eql 20 (.iface 24 (.int .i64 x)) .nilIface).run Try.prog W = .ok (.bool false) W := fun _ => by kernel_rfl
  have T : ∀ W : World, (Instr.typeAssert (.iface 24 (.int .i64 x)) 20 24 false).run Try.prog W = .ok (.int .i64 x) W := fun _ => by kernel_rfl
  go_enter Try.func27, Try.ntmps27
  go_wp2
  go_ret
  exact ⟨rfl, rfl⟩
theorem catch_errP (p : Go.Addr) (y : Value) (x : Int) (older : List PanicEntry) (w : World) (hc : w.cell? p = some y) (hz : w.frozen? p = false) :
    CallsD Try.prog 26 #[.pointer (some p)] (.panicking ({ v := .iface 24 (.int .i64 x), recovered := false } :: older)) w fun e u' w' =>
      e = .returned (.tuple #[]) ∧ u' = .panicking ({ v := .iface 24 (.int .i64 x), recovered := true } :: older) ∧ w' = w.setCell p (.int .i64 x) := by
  refine callsD_of_wpS Try.func26 rfl fun c₀ cs hu => ?_
  apply wpS_region
  simp [wpOpsS, go_sem, recoverD, hu, Try.ntmps26]
  refine (fault_err x w).mono ?_
  rintro e w' ⟨rfl, rfl⟩
  simp [go_sem, hc, hz, bodyPostS, results, Try.results26]
theorem catch_idleP (p : Go.Addr) (y : Value) (w : World) (hc : w.cell? p = some y) (hz : w.frozen? p = false) :
    CallsD Try.prog 26 #[.pointer (some p)] .returning w fun e u' w' => e = .returned (.tuple #[]) ∧ u' = .returning ∧ w' = w.setCell p (.int .i64 0) := by
  refine callsD_of_wpS Try.func26 rfl fun c₀ cs hu => ?_
  apply wpS_region
  simp [wpOpsS, go_sem, recoverD, hu, Try.ntmps26]
  refine (fault_nil w).mono ?_
  rintro e w' ⟨rfl, rfl⟩
  cases c₀
  simp_all [go_sem, bodyPostS, results, Try.results26]
theorem catch_errG (p : Go.Addr) (y : Value) (x : Int) (older : List PanicEntry) (w : World) (hc : w.cell? p = some y) (hz : w.frozen? p = false) :
    CallsD Try.prog 53 #[.pointer (some p)] (.panicking ({ v := .iface 24 (.int .i64 x), recovered := false } :: older)) w fun e u' w' =>
      e = .returned (.tuple #[]) ∧ u' = .panicking ({ v := .iface 24 (.int .i64 x), recovered := true } :: older) ∧ w' = w.setCell p (.int .i64 x) := by
  refine callsD_of_wpS Try.func53 rfl fun c₀ cs hu => ?_
  apply wpS_region
  simp [wpOpsS, go_sem, recoverD, hu, Try.ntmps53]
  refine (fault_err x w).mono ?_
  rintro e w' ⟨rfl, rfl⟩
  simp [go_sem, hc, hz, bodyPostS, results, Try.results53]
theorem catch_idleG (p : Go.Addr) (y : Value) (w : World) (hc : w.cell? p = some y) (hz : w.frozen? p = false) :
    CallsD Try.prog 53 #[.pointer (some p)] .returning w fun e u' w' => e = .returned (.tuple #[]) ∧ u' = .returning ∧ w' = w.setCell p (.int .i64 0) := by
  refine callsD_of_wpS Try.func53 rfl fun c₀ cs hu => ?_
  apply wpS_region
  simp [wpOpsS, go_sem, recoverD, hu, Try.ntmps53]
  refine (fault_nil w).mono ?_
  rintro e w' ⟨rfl, rfl⟩
  cases c₀
  simp_all [go_sem, bodyPostS, results, Try.results53]
/-- a row beside a block that a store goes into -/
theorem own_setE {w : World} {base b size n : Nat} {e t : TypeId} {v : Value} {xs : List Value} {cs : Array Value} (h : w.ownsRow base e size v n xs) (hb : w.heap[b]? = some (.cells cs t (0, 0))) (i : Nat) (x : Value) (ht : e ≠ t) : (w.setCell ⟨b, i, none⟩ x).ownsRow base e size v n xs := by
  refine own_fr h (fr_set w b i x) (fun g hg e => ?_)
  subst e
  rcases h.2 with ⟨rfl, _⟩ | ⟨g, cap, cur, rfl, _, h3, _⟩
  · cases hg
  · cases hg
    rw [show w.heap[(⟨g, 0, none⟩ : Go.Addr).block]? = w.heap[g]? from rfl] at hb
    rw [hb] at h3
    cases h3
    exact ht rfl
/-- what Parse answers -/
def parE (s : ByteArray) : Int := match parseK 0 (lb s) with | .ok _ => 0 | .error x => x
def parL (s : ByteArray) : List Opt := match parseK 0 (lb s) with | .ok l => l | .error _ => []
def ParseP (s : ByteArray) (w : World) (e : Ending) (w' : World) : Prop := ∃ v, e = .returned (.tuple #[v, .int .i64 (parE s)]) ∧ OwnO w' w.heap.size v (parL s) ∧ Below w.heap.size w w'
set_option maxRecDepth 100000 in
set_option maxHeartbeats 1000000 in
theorem parse_any {s : ByteArray} (hs : s.size ≤ maxLen) (w : World) : Calls Try.prog 10 #[.string s] w (ParseP s w) := by
  have hmf : ∀ (fn : Fn) (first cap : Array Value) (w : World), (Instr.makeFunc fn first cap).run Try.prog w = .ok (.func fn first cap) w := fun _ _ _ _ => rfl
  have OP := hide (fun b W (h : Rd b s W) => options_any hs h)
  clear hs
  have E0 := hide (heap_alloc_new w (.cells #[.int .i64 0] 24))
  have B0 := hide (below_alloc w (.cells #[.int .i64 0] 24))
  have s0 : (w.alloc (.cells #[.int .i64 0] 24)).heap.size = w.heap.size + 1 := by simp
  have R1 := hide (rd_new (w.alloc (.cells #[.int .i64 0] 24)) s)
  have B1 := hide (below_alloc (w.alloc (.cells #[.int .i64 0] 24)) (.cells #[.string s] 54))
  rw [s0] at R1 B1
  go_enter_defers Try.func10, Try.ntmps10
  go_wp2_with fail
  refine (OP.out _ _ R1.out).mono ?_
  intro e w2 h2
  unfold OptsP at h2
  have E1 := hide ((B1.out.block _ (by omega)).trans E0.out)
  cases hp : parseK 0 (lb s) with
  | ok l =>
    rw [hp] at h2
    obtain ⟨v, rfl, g1, g2, g3⟩ := h2
    have HE := hide (show parE s = 0 by unfold parE; rw [hp])
    have HL := hide (show parL s = l by unfold parL; rw [hp])
    have E2 := hide (g3.keep E1.out (by omega))
    have O2 := hide (ownO_base (base' := w.heap.size) g1 (by simp; omega))
    have F2 := hide (show Below w.heap.size w w2 from (B0.out.trans (B1.out.mono (by omega))).trans (g3.below (by simp; omega) (fun k e => by omega)))
    have c0 := cell_at E2.out 0
    have z0 := free_at E2.out 0
    clear g1 g2 g3 hp R1 E0 E1 OP
    go_wp2
    have E3 := set_block E2.out 0 (.int .i64 0)
    have F3 := F2.out.setCell (p := ⟨w.heap.size, 0, none⟩) (Nat.le_refl _) (.int .i64 0)
    have O3 := hide (own_setE O2.out E2.out 0 (.int .i64 0) (by decide))
    have c3 := cell_at E3 0
    have z3 := free_at E3 0
    generalize w2.setCell ⟨w.heap.size, 0, none⟩ (.int .i64 0) = w3 at *
    clear c0 z0 E2 O2 F2 B0 B1
    refine leaves_cons (f := 26) (args := #[.pointer (some ⟨w.heap.size, 0, none⟩)]) (by simp) (by simp [go_sem]) ?_
    refine (catch_idleP ⟨w.heap.size, 0, none⟩ _ _ c3 z3).mono ?_
    rintro e u' w4 ⟨rfl, rfl, rfl⟩
    have E4 := set_block E3 0 (.int .i64 0)
    have F4 := F3.setCell (p := ⟨w.heap.size, 0, none⟩) (Nat.le_refl _) (.int .i64 0)
    have O4 := own_setE O3.out E3 0 (.int .i64 0) (by decide)
    have c4 := cell_at E4 0
    generalize w3.setCell ⟨w.heap.size, 0, none⟩ (.int .i64 0) = w4 at *
    refine ⟨.tuple #[v, .int .i64 0], ?_, v, by rw [HE.out], by rw [HL.out]; exact O4, F4⟩
    simp at c4
    simp [results, Try.results10, go_sem, c4]
  | error x =>
    rw [hp] at h2
    obtain ⟨rfl, g3⟩ := h2
    have HE := hide (show parE s = x by unfold parE; rw [hp])
    have HL := hide (show parL s = [] by unfold parL; rw [hp])
    have E2 := g3.keep E1.out (by omega)
    have F2 := (show Below w.heap.size w w2 from (B0.out.trans (B1.out.mono (by omega))).trans (g3.below (by simp; omega) (fun k e => by omega)))
    have c0 := cell_at E2 0
    have z0 := free_at E2 0
    clear g3 hp R1 E0 E1 OP B0 B1
    refine leaves_cons (f := 26) (args := #[.pointer (some ⟨w.heap.size, 0, none⟩)]) (by simp) (by simp [go_sem]) ?_
    refine (catch_errP ⟨w.heap.size, 0, none⟩ _ x [] _ c0 z0).mono ?_
    rintro e u' w4 ⟨rfl, rfl, rfl⟩
    have E4 := set_block E2 0 (.int .i64 x)
    have F4 := F2.setCell (p := ⟨w.heap.size, 0, none⟩) (Nat.le_refl _) (.int .i64 x)
    have c4 := cell_at E4 0
    generalize w2.setCell ⟨w.heap.size, 0, none⟩ (.int .i64 x) = w4 at *
    refine ⟨.tuple #[.slice none 0 0, .int .i64 x], ?_, .slice none 0 0, by rw [HE.out], by rw [HL.out]; exact ownO_nil _ _, F4⟩
    simp at c4
    simp [results, Try.results10, go_sem, c4]
end Go.Proofs.Ytcpldojgmboipaa
