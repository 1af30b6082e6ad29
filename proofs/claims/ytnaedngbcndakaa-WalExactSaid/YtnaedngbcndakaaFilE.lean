/-
  The contracts of trim, lose, Arm, On, Down, Steps, Safe, and of find where there is no such file. Conditions: a string is no longer than an int, an int is one of 64 bits (every value of the types is such).
-/
import Derived.Test.YtnaedngbcndakaaFilD
import Derived.StillTailTactics
namespace Go.Proofs.Ytnaedngbcndakaa
open Go.RowKit Go.Maps

variable {w w' : World} {d m : Nat} {O : Nat → Prop} {D : DataW Unit} {fb : Nm → Nat} {sv : Nm → Value} {s : Dk}
set_option maxRecDepth 100000 in
set_option maxHeartbeats 1000000 in
theorem find_none_any (h : Dsk w d m O D fb sv s) {g cap : Nat} {x : Nm} {xs : List Nm} (hn : xs.length ≤ 1) (hx : ∀ j y, (x :: xs)[j]? = some y → w.cell? ⟨g, j, none⟩ = some (St y) ∧ y.length ≤ maxLen) (hc : checkI s (x :: xs) = 0) (hf : find s.fs x = none) :
    Calls Try.prog 59 #[Pt d, .slice (some ⟨g, 0, none⟩) (xs.length + 1) cap] w (Tells w (.tuple #[.pointer none, .int .i64 62])) := by
  have C := check_any ⟨m, D, fb, sv, h⟩ (xs := x :: xs) (by simp; omega) (cap := cap) hx
  rw [hc] at C
  have C2 := hide C
  obtain ⟨l, _, _, c0, _⟩ := h.cells
  obtain ⟨cx, hxl⟩ := hx 0 x rfl
  have LK : ∀ n, (Instr.lookup 70 (.map (some m)) (St x) true).run Try.prog (w.drewN n) = .ok (.tuple #[.pointer none, .bool false]) (w.drewN n) := fun n => lookup_no (h.no (Fr.drewN w n)) hf hxl
  clear hx hc C h
  go_enter Try.func59, Try.ntmps59
  go_wp2_with (go_at_call 53; refine C2.out.mono ?_; rintro e w2 ⟨rfl, rfl⟩)
  go_quiet (fail)
  go_wp2
  go_ret2
  exact ⟨rfl, Fr.drewN _ _⟩
/-- a file behind a cut -/
def Trims (w : World) (g : Nat) (v : Value) (f : Fl) (e : Ending) (w' : World) : Prop := e = .returned (.tuple #[]) ∧ Fr (fun k => k = g) w w' ∧ ∃ v', FileAt w' g v' f ∧ ∀ i, v'.ownBlock = some i → v.ownBlock = some i
theorem own_take {w : World} {b n k cap : Nat} {xs : List Value} {e : TypeId} (h : w.ownsRow 0 e 1 (.slice (some ⟨b, 0, none⟩) n cap) n xs) (hk : k ≤ n) : w.ownsRow 0 e 1 (.slice (some ⟨b, 0, none⟩) k cap) k (xs.take k) := by
  obtain ⟨h1, h2⟩ := h
  rcases h2 with ⟨hn, _⟩ | ⟨g, cap2, cur, e1, h3, h4, h5, h6, h7, h8⟩
  · cases hn
  · cases e1
    refine ⟨by rw [List.length_take]; omega, Or.inr ⟨b, cap, cur, rfl, h3, h4, by omega, h6, h7, ?_⟩⟩
    rw [← h8, List.take_take]
    congr 1; omega
set_option maxRecDepth 100000 in
set_option maxHeartbeats 1000000 in
theorem trim_any {g : Nat} {v : Value} {f : Fl} (h : FileAt w g v f) {n : Nat} (hn : n ≤ f.data.length) :
    Calls Try.prog 67 #[Pt g, .int .i64 (n : Int)] w (Trims w g v ⟨f.name, f.data.take n, n⟩) := by
  obtain ⟨hb, hr⟩ := h
  have c0 := cell_at hb 0
  have c1 := cell_at hb 1
  have f0 := free_at hb 0
  have f1 := free_at hb 1
  simp at c0 c1
  have hgl := lt_of_block hb
  have B1 : ∀ v', ((w.setCell ⟨g, 0, none⟩ v').setCell ⟨g, 1, none⟩ (.int .i64 (n : Int))).heap[g]? = some (.cells #[v', .int .i64 (n : Int)] 83 (0, 0)) := fun v' => by
    rw [set_block (set_block hb 0 v') 1]; rfl
  have FR : ∀ v', Fr (fun k => k = g) w ((w.setCell ⟨g, 0, none⟩ v').setCell ⟨g, 1, none⟩ (.int .i64 (n : Int))) := fun v' => (Fr.set w ⟨g, 0, none⟩ v').trans (Fr.set _ ⟨g, 1, none⟩ _) (fun i _ e => e)
  have HB := hide hb
  have HR := hide hr
  rcases hr.2 with ⟨rfl, h0⟩ | ⟨b, cap, cur, rfl, _, h3, h4, h5, h6, _⟩
  · obtain rfl : n = 0 := by omega
    clear hr hb hn
    go_enter Try.func67, Try.ntmps67
    go_wp2
    go_end0
    exact ⟨rfl, FR _, .slice none 0 0, ⟨B1 _, by simpa using World.ownsRow_nil _ 0 5 1⟩, fun i hi => hi⟩
  · have hbg : b ≠ g := fun e => by rw [e, hb] at h3; simp at h3
    have HN := hide hn
    have OT := own_take hr hn
    have hn2 : (n : Int) ≤ (cap : Int) := by omega
    have hn3 : n ≤ cap := by omega
    clear hr hb h3 h4 h6 hn
    go_enter Try.func67, Try.ntmps67
    go_wp2
    go_end0
    refine ⟨rfl, FR _, .slice (some ⟨b, 0, none⟩) n cap, ⟨B1 _, ?_⟩, fun i hi => hi⟩
    have := own_fr OT (FR (.slice (some ⟨b, 0, none⟩) n cap)) (fun i hi e => hbg (by cases hi; exact e))
    have HN2 := HN.out
    show World.ownsRow _ 0 _ 1 _ (f.data.take n).length ((f.data.take n).map byteV)
    rw [List.length_take, Nat.min_eq_left HN2, List.map_take]
    exact this
theorem row_slice {e : TypeId} {v : Value} {n : Nat} {xs : List Value} (h : w.ownsRow 0 e 1 v n xs) : ∃ p cap, v = .slice p n cap := by
  rcases h.2 with ⟨rfl, rfl⟩ | ⟨b, cap, cur, rfl, _⟩
  · exact ⟨_, _, rfl⟩
  · exact ⟨_, _, rfl⟩
set_option maxRecDepth 100000 in
set_option maxHeartbeats 1000000 in
theorem lose_any {g : Nat} {v : Value} {f : Fl} (h : FileAt w g v f) (hok : FlOk f) {keep : Int} (hk : I64 keep) :
    Calls Try.prog 51 #[Pt g, .int .i64 keep] w (Trims w g v (lose keep f)) := by
  obtain ⟨o1, o2, _⟩ := hok
  obtain ⟨u, hu⟩ : ∃ u, u = f.data.length - f.safe := ⟨_, rfl⟩
  have hkn := keepN_le keep u
  obtain ⟨n, hn⟩ : ∃ n, n = f.safe + keepN keep u := ⟨_, rfl⟩
  have T := fun (W : World) (k : Fr No w W) => trim_any (h.fr k (fun e => e) (fun _ _ e => e)) (n := n) (by omega)
  have HT := hide T
  have HN := hide hn
  obtain ⟨hb, hr⟩ := h
  obtain ⟨p, cap, rfl⟩ := row_slice hr
  have c0 := cell_at hb 0
  have c1 := cell_at hb 1
  simp at c0 c1
  have HU := hide hu
  have w1 : IntKind.i64.wrap ((f.data.length : Int) - (f.safe : Int)) = (u : Int) := by rw [IntWalk.i64_in _ (by omega)]; omega
  clear T hr hb hu hn
  obtain ⟨k, K1, K2, K3⟩ : ∃ k : Int, (if keep < 0 then 0 else keep) = k ∧ 0 ≤ k ∧ k.tmod ((u : Int) + 1) = (keepN keep u : Int) := by
    unfold keepN
    by_cases hpos : 0 < keep
    · obtain ⟨n, rfl⟩ := Int.eq_ofNat_of_zero_le (show 0 ≤ keep by omega)
      refine ⟨(n : Int), by rw [if_neg (by omega)], by omega, ?_⟩
      rw [if_pos hpos, Int.tmod_eq_emod_of_nonneg (by omega)]
      simp
    · refine ⟨0, by split <;> omega, by omega, ?_⟩
      rw [if_neg hpos]
      simp
  have hu2 : (u : Int) ≤ 1048576 := by have := HU.out; omega
  have hu3 : (f.safe : Int) + (keepN keep u : Int) ≤ 1048576 := by have := HU.out; omega
  have hu4 : (n : Int) = (f.safe : Int) + (keepN keep u : Int) := by have := HN.out; omega
  have HU4 := hide hu4
  clear hkn hu4
  generalize hkn2 : keepN keep u = kn at *
  have HKN := hide hkn2
  clear hkn2
  go_enter Try.func51, Try.ntmps51
  go_wp2
  go_quiet (fail)
  go_wp2
  have F2 := Fr.drewN w nq
  have d1 : (w.drewN nq).cell? ⟨g, 1, none⟩ = some (Value.int .i64 (f.safe : Nat)) := c1
  generalize w.drewN nq = w2 at *
  clear c0 c1 w1
  have e2 : IntKind.i64.wrap ((u : Int) + 1) = (u : Int) + 1 := IntWalk.i64_in _ (by omega)
  have e4 : IntKind.i64.wrap ((f.safe : Int) + (kn : Int)) = (n : Int) := by rw [IntWalk.i64_in _ (by omega), HU4.out]
  have e5 : ¬ (u : Int) + 1 = 0 := by omega
  go_still_tail 11, (by kernel_rfl)
  change wpList _ _ _ _ _ w2.drew
  have F3 := F2.andNo (Fr.drew w2)
  generalize w2.drew = w3 at *
  clear d1 F2
  go_wp2_with (go_at_call 67; refine (HT.out _ F3).mono ?_; rintro e w4 ⟨rfl, G⟩)
  go_end0
  obtain ⟨G1, v4, G3, G4⟩ := G
  have e9 : lose keep f = ⟨f.name, f.data.take n, n⟩ := by
    unfold lose
    rw [← HU.out, HKN.out, ← HN.out]
  exact ⟨rfl, (F3.no).trans G1 (fun i _ e => e), v4, by rw [e9]; exact G3, G4⟩
end Go.Proofs.Ytnaedngbcndakaa
