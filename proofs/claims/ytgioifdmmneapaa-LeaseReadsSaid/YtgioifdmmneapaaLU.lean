/-
  The reader of lease.Decode: contracts of take at addresses, small and run. Conditions: the bytes are no longer than an int, the place is from 0 to 2^62.
-/
import Derived.Test.YtgioifdmmneapaaLT
namespace Go.Proofs.Ytgioifdmmneapaa
open Go.RowKit Go.Joins

theorem two_fr {b x : Nat} {S : Nat → Prop} {W w2 : World} (h : Two b x W) (F : Fr S W w2) (hn : ¬ S b) : Two b x w2 := by
  obtain ⟨h1, h2, h3, h4, h5⟩ := h
  have e := F.block b h5 hn
  have z := F.size
  exact ⟨by rw [World.cell?_of_block (a := ⟨b, 0, none⟩) e]; exact h1, by rw [World.cell?_of_block (a := ⟨b, 1, none⟩) e]; exact h2, by rw [World.frozen?_of_block (a := ⟨b, 0, none⟩) e]; exact h3, by rw [World.frozen?_of_block (a := ⟨b, 1, none⟩) e]; exact h4, by omega⟩
/-- a world with the reader as it stood and the result's cell -/
def TC (w : World) (g : Nat) (s : ByteArray) (a e : Int) (W : World) : Prop := Fr No w W ∧ RdAt W g s a e ∧ Two w.heap.size 0 W
theorem TC.step {w : World} {g : Nat} {s : ByteArray} {a e : Int} {W W2 : World} (h : TC w g s a e W) (hb : Below W.heap.size W W2) : TC w g s a e W2 := ⟨h.1.andNo (Fr.ofBelow hb), h.2.1.no (Fr.ofBelow hb), two_fr h.2.2 (Fr.ofBelow hb) (fun e => e)⟩
theorem TC.set {w : World} {g : Nat} {s : ByteArray} {a e : Int} {W : World} (h : TC w g s a e W) {q : Go.Addr} (hq : w.heap.size < q.block) (hg : g < w.heap.size) (u : Value) : TC w g s a e (W.setCell q u) := by
  have F := Fr.set W q u
  refine ⟨h.1.trans F (fun i hi e => by omega), F.keep h.2.1 (by show ¬ g = _; omega), two_fr h.2.2 F (by show ¬ _ = _; omega)⟩
theorem TC.all {w : World} {g : Nat} {s : ByteArray} {a e : Int} {W : World} (h : TC w g s a e W) : TC w g s a e W ∧ W.cell? ⟨g, 0, none⟩ = some (.string s) ∧ W.cell? ⟨g, 1, none⟩ = some (.int .i64 a) := by
  have k0 := cell_at h.2.1 0
  have k1 := cell_at h.2.1 1
  simp at k0 k1
  exact ⟨h, k0, k1⟩

set_option maxRecDepth 100000 in
set_option maxHeartbeats 2000000 in
theorem take_addr {w : World} {g : Nat} {s : ByteArray} {a e : Int} (h : RdAt w g s a e) (hs : s.size ≤ maxLen) (h0 : 0 ≤ a) (h1 : a ≤ 4611686018427387904) :
    Calls Try.prog 71 #[Pt g, .int .i64 16, FnV 72] w (Took w g s (a + 16) (errS e (cutO s a 16) 3) (A (getA s a))) := by
  have G := hide (fun W => getAddr_any s hs (show I64 a by unfold I64; omega) W)
  have FL := hide (fun (W : World) (hW : RdAt W g s a e) => fail_any hW 3)
  generalize getA s a = v at *
  have W1 : IntKind.i64.wrap (a + 16) = a + 16 := IntWalk.i64_in _ ⟨by omega, by omega⟩
  have hg := lt_of_block h
  have H0 : TC w g s a e (w.alloc (.cells #[.int .u64 0, .int .u64 0] 24)) := ⟨Fr.alloc _ _, h.no (Fr.alloc _ _), two_zero w _⟩
  clear h
  generalize cutO s a 16 = ok at *
  go_enter Try.func71, Try.ntmps71
  go_wp2_with fail
  generalize w.alloc (.cells #[.int .u64 0, .int .u64 0] 24) = V at *
  obtain ⟨_, k0, k1⟩ := H0.all
  have zv : w.heap.size < V.heap.size := H0.2.2.2.2.2.2
  go_region_held3 (fun W => TC w g s a e W ∧ W.cell? ⟨g, 0, none⟩ = some (.string s) ∧ W.cell? ⟨g, 1, none⟩ = some (.int .i64 a))
    (first
      | exact (H0.step (below_drew _)).all
      | exact ((H0.step (below_alloc _ _)).step (below_drew _)).all
      | exact H2.all
      | exact (H2.step (below_alloc _ _)).all
      | exact (TC.set (TC.set H2 zv hg _) zv hg _).all
      | exact (TC.set (TC.set (H2.step (below_alloc _ _)) (by first | exact z2 | omega) hg _) (by first | exact z2 | omega) hg _).all)
    (first
      | (go_at_call 72; refine (G.out _).mono ?_; rintro en w2 ⟨rfl, hb2⟩; first | (have H2 := (H0.step (below_drew _)).step hb2; have z2 : w.heap.size < w2.heap.size := H2.2.2.2.2.2.2) | (have H2 := ((H0.step (below_alloc _ _)).step (below_drew _)).step hb2; have z2 : w.heap.size < w2.heap.size := H2.2.2.2.2.2.2; have T2 := ((two_zero V 24).step (below_drew _)).step hb2; obtain ⟨t0, t1, t2, t3, t4⟩ := id T2)))
  all_goals first
    | (have H3 := TC.set (TC.set H2 (q := ⟨V.heap.size, 0, none⟩) zv hg (.int .u64 (hi v : Nat))) (q := ⟨V.heap.size, 1, none⟩) zv hg (.int .u64 (lo v : Nat)); have T3 := T2.put v; have zb := zv; clear T2 t0 t1 t2 t3 t4; generalize (w2.setCell ⟨V.heap.size, 0, none⟩ (.int .u64 (hi v : Nat))).setCell ⟨V.heap.size, 1, none⟩ (.int .u64 (lo v : Nat)) = V3 at H3 T3 ⊢; generalize V.heap.size = b at T3 zb ⊢)
    | (have H3 := H2.step (below_alloc w2 (.cells #[.int .u64 (hi v : Nat), .int .u64 (lo v : Nat)] 24)); have T3 := two_new w2 v 24; have zb := z2; generalize w2.alloc (.cells #[.int .u64 (hi v : Nat), .int .u64 (lo v : Nat)] 24) = V3 at H3 T3 ⊢; generalize w2.heap.size = b at T3 zb ⊢)
  all_goals clear H2 z2 hb2 zv H0 k0 k1 G
  all_goals cases ok with
    | false =>
      go_wp2_with fail
      refine (FL.out _ H3.2.1).mono ?_
      rintro en w5 ⟨rfl, F5, R5⟩
      have U5 := two_fr T3 F5 (by omega)
      have O5 := two_fr H3.2.2 F5 (by omega)
      have F6 : Fr (fun k => k = g) w w5 := H3.1.no.same F5
      have R6 := hide R5
      have k0 := cell_at R5 0
      have k1 := cell_at R5 1
      have f1 := free_at R5 1
      simp at k0 k1
      have hgb : g ≠ b := by omega
      have hgw : g ≠ w.heap.size := by omega
      obtain ⟨t0, t1, t2, t3, t4⟩ := U5
      obtain ⟨o0, o1, o2, o3, o4⟩ := O5
      clear R5 F5 H3 T3
      go_wp2
      refine bodyPost_ret (v := A v) (by simp [results, Try.results71, go_sem, o0, o1]) rfl ⟨rfl, ((F6.same fr_set2).trans (Fr.set _ ⟨w.heap.size, 0, none⟩ _) (fun i hi e => by have e : i = w.heap.size := e; omega)).trans (Fr.set _ ⟨w.heap.size, 1, none⟩ _) (fun i hi e => by have e : i = w.heap.size := e; omega), ?_⟩
      refine (Fr.set _ ⟨w.heap.size, 1, none⟩ _).keep ((Fr.set _ ⟨w.heap.size, 0, none⟩ _).keep ?_ hgw) hgw
      rw [set_block R6.out 1]; rfl
    | true =>
      have F6 : Fr (fun k => k = g) w V3 := H3.1.no
      have R6 := hide H3.2.1
      have k0 := cell_at H3.2.1 0
      have k1 := cell_at H3.2.1 1
      have f1 := free_at H3.2.1 1
      simp at k0 k1
      have hgb : g ≠ b := by omega
      have hgw : g ≠ w.heap.size := by omega
      obtain ⟨t0, t1, t2, t3, t4⟩ := T3
      obtain ⟨o0, o1, o2, o3, o4⟩ := H3.2.2
      clear H3
      go_wp2
      refine bodyPost_ret (v := A v) (by simp [results, Try.results71, go_sem, o0, o1]) rfl ⟨rfl, ((F6.same fr_set2).trans (Fr.set _ ⟨w.heap.size, 0, none⟩ _) (fun i hi e => by have e : i = w.heap.size := e; omega)).trans (Fr.set _ ⟨w.heap.size, 1, none⟩ _) (fun i hi e => by have e : i = w.heap.size := e; omega), ?_⟩
      refine (Fr.set _ ⟨w.heap.size, 1, none⟩ _).keep ((Fr.set _ ⟨w.heap.size, 0, none⟩ _).keep ?_ hgw) hgw
      rw [set_block R6.out 1]; rfl

set_option maxRecDepth 100000 in
theorem small_any {w : World} {g : Nat} {s : ByteArray} {a e : Int} (h : RdAt w g s a e) (hs : s.size ≤ maxLen) (h0 : 0 ≤ a) (h1 : a ≤ 4611686018427387904) :
    Calls Try.prog 70 #[Pt g] w (Took w g s (a + 1) (errS e (cutO s a 1) 3) (.int .i64 (getV 1 s a : Nat))) := by
  have T := hide (take_byte h hs h0 h1)
  have hv := getV_lt 1 s a
  generalize getV 1 s a = v at *
  generalize errS e (cutO s a 1) 3 = e2 at *
  have W1 : IntKind.i64.wrap (v : Int) = (v : Int) := IntWalk.i64_in _ ⟨by omega, by omega⟩
  clear h hv
  go_enter Try.func70, Try.ntmps70
  go_wp2_with fail
  refine T.out.mono ?_
  rintro en w' ⟨rfl, F, R⟩
  go_wp2
  go_ret
  exact ⟨rfl, F, R⟩
theorem clone_any (s : ByteArray) (hs : s.size ≤ 281474976710656) (w : World) : Calls Try.prog 100 #[.string s] w (Gives (.string s) w) := by
  have C := hide (Try.stringslite_Clone s w hs)
  clear hs
  go_enter Try.func100, Try.ntmps100
  go_wp2_with fail
  refine C.out.mono ?_
  rintro en w' ⟨rfl, hb⟩
  go_wp2
  go_ret
  exact ⟨rfl, hb⟩
end Go.Proofs.Ytgioifdmmneapaa
