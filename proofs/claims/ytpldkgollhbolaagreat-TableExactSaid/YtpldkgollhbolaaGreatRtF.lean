/-
  The document's own Find and Of of layer 9. Conditions: at most 2000 leases, of their types; the words are words of 64 bits, a text is no longer than an int.
-/
import Derived.Test.YtpldkgollhbolaaGreatRtE
namespace Go.Proofs.YtpldkgollhbolaaGreat
open Go.RowKit Go.Joins Go.Maps

variable {w w' V W W' : World} {L : List Ls} {v : Value}
theorem find_here {α : Type} {l : List α} {k : Nat} {y : α} {P : α → Bool} (hy : l[k]? = some y) (h : (l.take k).any P = false) (hp : P y = true) : l.find? P = some y := by
  have hk := (List.getElem?_eq_some_iff.1 hy).1
  have hy2 : l[k] = y := (List.getElem?_eq_some_iff.1 hy).2
  have e : l = l.take k ++ y :: l.drop (k + 1) := by
    rw [← hy2, List.getElem_cons_drop]; exact (List.take_append_drop k l).symm
  rw [e, List.find?_append, List.find?_eq_none.2 (fun x hx => by have := List.any_eq_false.1 h x hx; simpa using this)]
  simp [hp]
theorem find_nowhere {α : Type} {l : List α} {P : α → Bool} (h : (l.take l.length).any P = false) : l.find? P = none := by
  rw [List.take_length] at h
  exact List.find?_eq_none.2 (fun x hx => by have := List.any_eq_false.1 h x hx; simpa using this)
/-- the result's box, still empty -/
def ZB (z : Nat) (W : World) : Prop := W.heap[z]? = some (.cells #[.int .i64 0, .int .u64 0, .int .u64 0, .int .i64 0, .int .i64 0, .string ⟨#[]⟩, .int .u32 0, .int .i64 0] 30 (0, 0))
theorem ZB.step {z : Nat} (h : ZB z W) (hb : Below W.heap.size W W') : ZB z W' := (Fr.ofBelow hb).keep h (fun e => e)
theorem ZB.cells {z : Nat} (h : ZB z W) : W.cell? ⟨z, 0, none⟩ = some (.int .i64 0) ∧ W.cell? ⟨z, 1, none⟩ = some (.int .u64 0) ∧ W.cell? ⟨z, 2, none⟩ = some (.int .u64 0) ∧ W.cell? ⟨z, 3, none⟩ = some (.int .i64 0) ∧ W.cell? ⟨z, 4, none⟩ = some (.int .i64 0) ∧ W.cell? ⟨z, 5, none⟩ = some (.string ⟨#[]⟩) ∧ W.cell? ⟨z, 6, none⟩ = some (.int .u32 0) ∧ W.cell? ⟨z, 7, none⟩ = some (.int .i64 0) :=
  ⟨cell_at h 0, cell_at h 1, cell_at h 2, cell_at h 3, cell_at h 4, cell_at h 5, cell_at h 6, cell_at h 7⟩
set_option maxRecDepth 100000 in
set_option maxHeartbeats 4000000 in
theorem rfind_any {u c : Nat} {p : Option Go.Addr} (h : RTab w u p c L) (hn : L.length ≤ 2000) (kd : Int) (q : Nat) (n : Int) : Calls Tryz.prog 26 #[Pt u, .int .i64 kd, Pv q n] w (Gives (tellV (findL L kd q n)) w) := by
  have HT := hide h
  have HB0 := hide (chain (below_alloc w (.cells #[.int .u64 (hi q : Nat), .int .u64 (lo q : Nat), .int .i64 n] 27)) (below_alloc _ (.cells #[.int .i64 0, .int .u64 0, .int .u64 0, .int .i64 0, .int .i64 0, .string ⟨#[]⟩, .int .u32 0, .int .i64 0] 30)))
  have QB := hide ((Fr.ofBelow (below_alloc (w.alloc (.cells #[.int .u64 (hi q : Nat), .int .u64 (lo q : Nat), .int .i64 n] 27)) (.cells #[.int .i64 0, .int .u64 0, .int .u64 0, .int .i64 0, .int .i64 0, .string ⟨#[]⟩, .int .u32 0, .int .i64 0] 30))).keep (heap_alloc_new w (.cells #[.int .u64 (hi q : Nat), .int .u64 (lo q : Nat), .int .i64 n] 27)) (fun e => e))
  have Z0 : Hid (ZB (w.heap.size + 1) ((w.alloc (.cells #[.int .u64 (hi q : Nat), .int .u64 (lo q : Nat), .int .i64 n] 27)).alloc (.cells #[.int .i64 0, .int .u64 0, .int .u64 0, .int .i64 0, .int .i64 0, .string ⟨#[]⟩, .int .u32 0, .int .i64 0] 30))) := hide (alloc_at _ (by simp))
  have FL := hide (show findL L kd q n = L.find? (fun y => decide (y.kind = kd ∧ y.p = q ∧ y.n = n)) from rfl)
  clear h
  go_enter Tryz.func26, Tryz.ntmps26
  go_upto_region 1 with fail
  generalize (w.alloc (.cells #[.int .u64 (hi q : Nat), .int .u64 (lo q : Nat), .int .i64 n] 27)).alloc (.cells #[.int .i64 0, .int .u64 0, .int .u64 0, .int .i64 0, .int .i64 0, .string ⟨#[]⟩, .int .u32 0, .int .i64 0] 30) = V at *
  go_wp2_with fail
  go_loopw [8] (fun ii wr => ∃ k : Nat, k ≤ L.length ∧ ii = .int .i64 (k : Nat) ∧ Hid ((L.take k).any (fun y => decide (y.kind = kd ∧ y.p = q ∧ y.n = n)) = false) ∧ Hid (Below V.heap.size V wr)) (fun ii _ => L.length - (intOf ii).toNat)
  case atStart => exact ⟨0, Nat.zero_le _, rfl, hide rfl, hide (Below.refl _ _)⟩
  case round =>
    obtain ⟨k, hk, rfl, HA, HB⟩ := hrel
    have hk0 : (0 : Int) ≤ (k : Int) := by omega
    have HTk := (HT.out.step HB0.out).step HB.out
    have c0 := HTk.cell
    have ZK := hide (Z0.out.step HB.out)
    have SV := hide HB0.out.size
    by_cases hlt : k < L.length
    · have hlt2 : (k : Int) < (L.length : Int) := by omega
      obtain ⟨y, hy⟩ : ∃ y, L[k]? = some y := ⟨_, List.getElem?_eq_getElem hlt⟩
      have AS := hide (any_snoc hy HA.out)
      have FH := hide (fun (h : decide (y.kind = kd ∧ y.p = q ∧ y.n = n) = true) => find_here (P := fun y => decide (y.kind = kd ∧ y.p = q ∧ y.n = n)) hy HA.out h)
      have EQ := fun W => eq_pre y.p q y.n n W
      have PP : Hid (decide (y.kind = kd ∧ y.p = q ∧ y.n = n) = (y.kind == kd && (((((hi y.p : Nat) : Int) == ((hi q : Nat) : Int)) && (((lo y.p : Nat) : Int) == ((lo q : Nat) : Int))) && (y.n == n)))) := hide (by
        rw [Bool.eq_iff_iff, decide_eq_true_iff, hilo]
        simp only [Bool.and_eq_true, beq_iff_eq]
        omega)
      obtain ⟨b, o, rfl, hat⟩ := HTk.lst k y hy
      have HY := hide (fun W (H : NB wr W) => hat.st H)
      have TW := hide (fun W (H : NB wr W) => (HTk.step H).cell)
      have QW := hide (fun W (H : NB wr W) => (Fr.ofBelow (chain HB.out H)).keep QB.out (fun e => e))
      generalize (((((hi y.p : Nat) : Int) == ((hi q : Nat) : Int)) && (((lo y.p : Nat) : Int) == ((lo q : Nat) : Int))) && (y.n == n)) = r at *
      clear HTk hy hat HA
      by_cases h1 : y.kind = kd
      · have e1 : (y.kind == kd) = true := by rw [beq_iff_eq]; exact h1
        rw [e1] at PP
        clear h1
        go_wp2_with fail
        refine wp_region_quiet (C := NB wr) (by kernel_rfl) (by kernel_rfl) (below_drew wr) (wpQuiet_step (fun K0 hK0 => ?_))
        go_simp
        first | (with_reducible refine hK0 _ (wpQuiet_step (fun K1 hK1 => ?_))) | (with_reducible refine ⟨_, fun _ _ => rfl, hK0 _ (wpQuiet_step (fun K1 hK1 => ?_))⟩) | (rw [if_neg (by intro e; cases e)]; with_reducible refine hK0 _ (wpQuiet_step (fun K1 hK1 => ?_)))
        clear hK0 K0
        go_simp
        first | (with_reducible refine hK1 _ (wpQuiet_step (fun K0 hK0 => ?_))) | (with_reducible refine ⟨_, fun _ _ => rfl, hK1 _ (wpQuiet_step (fun K0 hK0 => ?_))⟩) | (rw [if_neg (by intro e; cases e)]; with_reducible refine hK1 _ (wpQuiet_step (fun K0 hK0 => ?_)))
        clear hK1 K1
        go_simp
        first | (with_reducible refine hK0 _ (wpQuiet_step (fun K1 hK1 => ?_))) | (with_reducible refine ⟨_, fun _ _ => rfl, hK0 _ (wpQuiet_step (fun K1 hK1 => ?_))⟩) | (rw [if_neg (by intro e; cases e)]; with_reducible refine hK0 _ (wpQuiet_step (fun K1 hK1 => ?_)))
        clear hK0 K0
        go_simp
        refine ⟨.slice (some ⟨b, o, none⟩) L.length c, fun W hW => ?_, hK1 _ (wpQuiet_step (fun K0 hK0 => ?_))⟩
        · ((have u0 := TW.out W hW; simp [go_sem, u0]))
        clear hK1 K1
        go_simp
        first | (with_reducible refine hK0 _ (wpQuiet_step (fun K1 hK1 => ?_))) | (with_reducible refine ⟨_, fun _ _ => rfl, hK0 _ (wpQuiet_step (fun K1 hK1 => ?_))⟩) | (rw [if_neg (by intro e; cases e)]; with_reducible refine hK0 _ (wpQuiet_step (fun K1 hK1 => ?_)))
        clear hK0 K0
        go_simp
        first | (with_reducible refine hK1 _ (wpQuiet_step (fun K0 hK0 => ?_))) | (with_reducible refine ⟨_, fun _ _ => rfl, hK1 _ (wpQuiet_step (fun K0 hK0 => ?_))⟩) | (rw [if_neg (by intro e; cases e)]; with_reducible refine hK1 _ (wpQuiet_step (fun K0 hK0 => ?_)))
        clear hK1 K1
        go_simp
        first | (with_reducible refine hK0 _ (wpQuiet_step (fun K1 hK1 => ?_))) | (with_reducible refine ⟨_, fun _ _ => rfl, hK0 _ (wpQuiet_step (fun K1 hK1 => ?_))⟩) | (rw [if_neg (by intro e; cases e)]; with_reducible refine hK0 _ (wpQuiet_step (fun K1 hK1 => ?_)))
        clear hK0 K0
        go_simp
        refine ⟨.int .i64 y.kind, fun W hW => ?_, hK1 _ (wpQuiet_step (fun K0 hK0 => ?_))⟩
        · ((obtain ⟨u0, u1, u2, u3, u4, u5, u6, u7⟩ := HY.out W hW; simp [go_sem, u0]))
        clear hK1 K1
        go_simp
        first | (with_reducible refine hK0 _ (wpQuiet_step (fun K1 hK1 => ?_))) | (with_reducible refine ⟨_, fun _ _ => rfl, hK0 _ (wpQuiet_step (fun K1 hK1 => ?_))⟩) | (rw [if_neg (by intro e; cases e)]; with_reducible refine hK0 _ (wpQuiet_step (fun K1 hK1 => ?_)))
        clear hK0 K0
        go_simp
        first | (with_reducible refine hK1 _ (wpQuiet_step (fun K0 hK0 => ?_))) | (with_reducible refine ⟨_, fun _ _ => rfl, hK1 _ (wpQuiet_step (fun K0 hK0 => ?_))⟩) | (rw [if_neg (by intro e; cases e)]; with_reducible refine hK1 _ (wpQuiet_step (fun K0 hK0 => ?_)))
        clear hK1 K1
        go_simp
        first | (with_reducible refine hK0 _ (wpQuiet_step (fun K1 hK1 => ?_))) | (with_reducible refine ⟨_, fun _ _ => rfl, hK0 _ (wpQuiet_step (fun K1 hK1 => ?_))⟩) | (rw [if_neg (by intro e; cases e)]; with_reducible refine hK0 _ (wpQuiet_step (fun K1 hK1 => ?_)))
        clear hK0 K0
        go_simp
        first | (with_reducible refine hK1 _ (wpQuiet_step (fun K0 hK0 => ?_))) | (with_reducible refine ⟨_, fun _ _ => rfl, hK1 _ (wpQuiet_step (fun K0 hK0 => ?_))⟩) | (rw [if_neg (by intro e; cases e)]; with_reducible refine hK1 _ (wpQuiet_step (fun K0 hK0 => ?_)))
        clear hK1 K1
        go_simp
        first | (with_reducible refine hK0 _ (wpQuiet_step (fun K1 hK1 => ?_))) | (with_reducible refine ⟨_, fun _ _ => rfl, hK0 _ (wpQuiet_step (fun K1 hK1 => ?_))⟩) | (rw [if_neg (by intro e; cases e)]; with_reducible refine hK0 _ (wpQuiet_step (fun K1 hK1 => ?_)))
        clear hK0 K0
        go_simp
        first | (with_reducible refine hK1 _ (wpQuiet_step (fun K0 hK0 => ?_))) | (with_reducible refine ⟨_, fun _ _ => rfl, hK1 _ (wpQuiet_step (fun K0 hK0 => ?_))⟩) | (rw [if_neg (by intro e; cases e)]; with_reducible refine hK1 _ (wpQuiet_step (fun K0 hK0 => ?_)))
        clear hK1 K1
        go_simp
        refine ⟨.slice (some ⟨b, o, none⟩) L.length c, fun W hW => ?_, hK0 _ (wpQuiet_step (fun K1 hK1 => ?_))⟩
        · ((have u0 := TW.out W hW; simp [go_sem, u0]))
        clear hK0 K0
        go_simp
        first | (with_reducible refine hK1 _ (wpQuiet_step (fun K0 hK0 => ?_))) | (with_reducible refine ⟨_, fun _ _ => rfl, hK1 _ (wpQuiet_step (fun K0 hK0 => ?_))⟩) | (rw [if_neg (by intro e; cases e)]; with_reducible refine hK1 _ (wpQuiet_step (fun K0 hK0 => ?_)))
        clear hK1 K1
        go_simp
        first | (with_reducible refine hK0 _ (wpQuiet_step (fun K1 hK1 => ?_))) | (with_reducible refine ⟨_, fun _ _ => rfl, hK0 _ (wpQuiet_step (fun K1 hK1 => ?_))⟩) | (rw [if_neg (by intro e; cases e)]; with_reducible refine hK0 _ (wpQuiet_step (fun K1 hK1 => ?_)))
        clear hK0 K0
        go_simp
        first | (with_reducible refine hK1 _ (wpQuiet_step (fun K0 hK0 => ?_))) | (with_reducible refine ⟨_, fun _ _ => rfl, hK1 _ (wpQuiet_step (fun K0 hK0 => ?_))⟩) | (rw [if_neg (by intro e; cases e)]; with_reducible refine hK1 _ (wpQuiet_step (fun K0 hK0 => ?_)))
        clear hK1 K1
        go_simp
        refine ⟨Pv y.p y.n, fun W hW => ?_, hK0 _ (wpQuiet_step (fun K1 hK1 => ?_))⟩
        · ((obtain ⟨u0, u1, u2, u3, u4, u5, u6, u7⟩ := HY.out W hW; simp [go_sem, u1, u2, u3]))
        clear hK0 K0
        go_simp
        refine ⟨Pv q n, fun W hW => ?_, hK1 _ (wpQuiet_step (fun K0 hK0 => ?_))⟩
        · ((have u0 := QW.out W hW; have a0 := cell_at u0 0; have a1 := cell_at u0 1; have a2 := cell_at u0 2; simp at a0 a1 a2; simp [go_sem, a0, a1, a2]))
        clear hK1 K1
        go_simp
        first | (with_reducible refine hK0 _ (wpQuiet_step (fun K1 hK1 => ?_))) | (with_reducible refine ⟨_, fun _ _ => rfl, hK0 _ (wpQuiet_step (fun K1 hK1 => ?_))⟩) | (rw [if_neg (by intro e; cases e)]; with_reducible refine hK0 _ (wpQuiet_step (fun K1 hK1 => ?_)))
        clear hK0 K0
        go_simp
        first | (with_reducible refine hK1 _ (wpQuiet_nil ?_)) | (with_reducible refine ⟨_, fun _ _ => rfl, hK1 _ (wpQuiet_nil ?_)⟩) | (rw [if_neg (by intro e; cases e)]; with_reducible refine hK1 _ (wpQuiet_nil ?_))
        clear hK1 K1
        intro w2 H2
        have HB2 := hide (HB.out.trans (H2.mono HB.out.size))
        have c2 := TW.out w2 H2
        obtain ⟨u0, u1, u2, u3, u4, u5, u6, u7⟩ := HY.out w2 H2
        have Z2 := ZK.out.step H2
        obtain ⟨z0, z1, z2, z3, z4, z5, z6, z7⟩ := Z2.cells
        have f0 := frozen_at Z2 0
        have f1 := frozen_at Z2 1
        have f2 := frozen_at Z2 2
        have f3 := frozen_at Z2 3
        have f4 := frozen_at Z2 4
        have f5 := frozen_at Z2 5
        have f6 := frozen_at Z2 6
        have f7 := frozen_at Z2 7
        cases r with
        | true =>
          have FE := hide (show findL L kd q n = some y by rw [FL.out]; exact FH.out PP.out)
          have BE := hide (chain HB0.out HB2.out)
          have hzw : w.heap.size ≤ w.heap.size + 1 := by omega
          clear AS FH PP HY TW QW Z2 H2 c0 HB ZK
          go_wp2
          refine bodyPost_ret (v := .tuple #[Lv y, .bool true]) (by simp [results, Tryz.results26, go_sem, z0, z1, z2, z3, z4, z5, z6, z7]) rfl ⟨by rw [FE.out]; rfl, ?_⟩
          exact (((((((BE.out.setCell hzw _).setCell hzw _).setCell hzw _).setCell hzw _).setCell hzw _).setCell hzw _).setCell hzw _).setCell hzw _
        | false =>
          have AF := hide (show ((L.take (k + 1)).any (fun y => decide (y.kind = kd ∧ y.p = q ∧ y.n = n))) = false by rw [AS.out]; exact PP.out)
          clear AS FH PP HY TW QW Z2 H2 c0 HB ZK z0 z1 z2 z3 z4 z5 z6 z7 f0 f1 f2 f3 f4 f5 f6 f7
          go_wp2
          go_roundw
          case rel => exact ⟨k + 1, hlt, by go_num, AF, HB2⟩
          case measure => simp [intOf]; omega
      · have e1 : (y.kind == kd) = false := by rw [beq_eq_false_iff_ne]; exact h1
        rw [e1] at PP
        clear h1
        go_wp2_with fail
        refine wp_region_quiet (C := NB wr) (by kernel_rfl) (by kernel_rfl) (below_drew wr) (wpQuiet_step (fun K0 hK0 => ?_))
        go_simp
        first | (with_reducible refine hK0 _ (wpQuiet_step (fun K1 hK1 => ?_))) | (with_reducible refine ⟨_, fun _ _ => rfl, hK0 _ (wpQuiet_step (fun K1 hK1 => ?_))⟩) | (rw [if_neg (by intro e; cases e)]; with_reducible refine hK0 _ (wpQuiet_step (fun K1 hK1 => ?_)))
        clear hK0 K0
        go_simp
        first | (with_reducible refine hK1 _ (wpQuiet_step (fun K0 hK0 => ?_))) | (with_reducible refine ⟨_, fun _ _ => rfl, hK1 _ (wpQuiet_step (fun K0 hK0 => ?_))⟩) | (rw [if_neg (by intro e; cases e)]; with_reducible refine hK1 _ (wpQuiet_step (fun K0 hK0 => ?_)))
        clear hK1 K1
        go_simp
        first | (with_reducible refine hK0 _ (wpQuiet_step (fun K1 hK1 => ?_))) | (with_reducible refine ⟨_, fun _ _ => rfl, hK0 _ (wpQuiet_step (fun K1 hK1 => ?_))⟩) | (rw [if_neg (by intro e; cases e)]; with_reducible refine hK0 _ (wpQuiet_step (fun K1 hK1 => ?_)))
        clear hK0 K0
        go_simp
        refine ⟨.slice (some ⟨b, o, none⟩) L.length c, fun W hW => ?_, hK1 _ (wpQuiet_step (fun K0 hK0 => ?_))⟩
        · ((have u0 := TW.out W hW; simp [go_sem, u0]))
        clear hK1 K1
        go_simp
        first | (with_reducible refine hK0 _ (wpQuiet_step (fun K1 hK1 => ?_))) | (with_reducible refine ⟨_, fun _ _ => rfl, hK0 _ (wpQuiet_step (fun K1 hK1 => ?_))⟩) | (rw [if_neg (by intro e; cases e)]; with_reducible refine hK0 _ (wpQuiet_step (fun K1 hK1 => ?_)))
        clear hK0 K0
        go_simp
        first | (with_reducible refine hK1 _ (wpQuiet_step (fun K0 hK0 => ?_))) | (with_reducible refine ⟨_, fun _ _ => rfl, hK1 _ (wpQuiet_step (fun K0 hK0 => ?_))⟩) | (rw [if_neg (by intro e; cases e)]; with_reducible refine hK1 _ (wpQuiet_step (fun K0 hK0 => ?_)))
        clear hK1 K1
        go_simp
        first | (with_reducible refine hK0 _ (wpQuiet_step (fun K1 hK1 => ?_))) | (with_reducible refine ⟨_, fun _ _ => rfl, hK0 _ (wpQuiet_step (fun K1 hK1 => ?_))⟩) | (rw [if_neg (by intro e; cases e)]; with_reducible refine hK0 _ (wpQuiet_step (fun K1 hK1 => ?_)))
        clear hK0 K0
        go_simp
        refine ⟨.int .i64 y.kind, fun W hW => ?_, hK1 _ (wpQuiet_step (fun K0 hK0 => ?_))⟩
        · ((obtain ⟨u0, u1, u2, u3, u4, u5, u6, u7⟩ := HY.out W hW; simp [go_sem, u0]))
        clear hK1 K1
        go_simp
        first | (with_reducible refine hK0 _ (wpQuiet_step (fun K1 hK1 => ?_))) | (with_reducible refine ⟨_, fun _ _ => rfl, hK0 _ (wpQuiet_step (fun K1 hK1 => ?_))⟩) | (rw [if_neg (by intro e; cases e)]; with_reducible refine hK0 _ (wpQuiet_step (fun K1 hK1 => ?_)))
        clear hK0 K0
        go_simp
        first | (with_reducible refine hK1 _ (wpQuiet_step (fun K0 hK0 => ?_))) | (with_reducible refine ⟨_, fun _ _ => rfl, hK1 _ (wpQuiet_step (fun K0 hK0 => ?_))⟩) | (rw [if_neg (by intro e; cases e)]; with_reducible refine hK1 _ (wpQuiet_step (fun K0 hK0 => ?_)))
        clear hK1 K1
        go_simp
        first | (with_reducible refine hK0 _ (wpQuiet_step (fun K1 hK1 => ?_))) | (with_reducible refine ⟨_, fun _ _ => rfl, hK0 _ (wpQuiet_step (fun K1 hK1 => ?_))⟩) | (rw [if_neg (by intro e; cases e)]; with_reducible refine hK0 _ (wpQuiet_step (fun K1 hK1 => ?_)))
        clear hK0 K0
        go_simp
        first | (with_reducible refine hK1 _ (wpQuiet_step (fun K0 hK0 => ?_))) | (with_reducible refine ⟨_, fun _ _ => rfl, hK1 _ (wpQuiet_step (fun K0 hK0 => ?_))⟩) | (rw [if_neg (by intro e; cases e)]; with_reducible refine hK1 _ (wpQuiet_step (fun K0 hK0 => ?_)))
        clear hK1 K1
        go_simp
        first | (with_reducible refine hK0 _ (wpQuiet_step (fun K1 hK1 => ?_))) | (with_reducible refine ⟨_, fun _ _ => rfl, hK0 _ (wpQuiet_step (fun K1 hK1 => ?_))⟩) | (rw [if_neg (by intro e; cases e)]; with_reducible refine hK0 _ (wpQuiet_step (fun K1 hK1 => ?_)))
        clear hK0 K0
        go_simp
        first | (with_reducible refine hK1 _ (wpQuiet_step (fun K0 hK0 => ?_))) | (with_reducible refine ⟨_, fun _ _ => rfl, hK1 _ (wpQuiet_step (fun K0 hK0 => ?_))⟩) | (rw [if_neg (by intro e; cases e)]; with_reducible refine hK1 _ (wpQuiet_step (fun K0 hK0 => ?_)))
        clear hK1 K1
        go_simp
        first | (with_reducible refine hK0 _ (wpQuiet_step (fun K1 hK1 => ?_))) | (with_reducible refine ⟨_, fun _ _ => rfl, hK0 _ (wpQuiet_step (fun K1 hK1 => ?_))⟩) | (rw [if_neg (by intro e; cases e)]; with_reducible refine hK0 _ (wpQuiet_step (fun K1 hK1 => ?_)))
        clear hK0 K0
        go_simp
        first | (with_reducible refine hK1 _ (wpQuiet_step (fun K0 hK0 => ?_))) | (with_reducible refine ⟨_, fun _ _ => rfl, hK1 _ (wpQuiet_step (fun K0 hK0 => ?_))⟩) | (rw [if_neg (by intro e; cases e)]; with_reducible refine hK1 _ (wpQuiet_step (fun K0 hK0 => ?_)))
        clear hK1 K1
        go_simp
        first | (with_reducible refine hK0 _ (wpQuiet_step (fun K1 hK1 => ?_))) | (with_reducible refine ⟨_, fun _ _ => rfl, hK0 _ (wpQuiet_step (fun K1 hK1 => ?_))⟩) | (rw [if_neg (by intro e; cases e)]; with_reducible refine hK0 _ (wpQuiet_step (fun K1 hK1 => ?_)))
        clear hK0 K0
        go_simp
        first | (with_reducible refine hK1 _ (wpQuiet_step (fun K0 hK0 => ?_))) | (with_reducible refine ⟨_, fun _ _ => rfl, hK1 _ (wpQuiet_step (fun K0 hK0 => ?_))⟩) | (rw [if_neg (by intro e; cases e)]; with_reducible refine hK1 _ (wpQuiet_step (fun K0 hK0 => ?_)))
        clear hK1 K1
        go_simp
        first | (with_reducible refine hK0 _ (wpQuiet_step (fun K1 hK1 => ?_))) | (with_reducible refine ⟨_, fun _ _ => rfl, hK0 _ (wpQuiet_step (fun K1 hK1 => ?_))⟩) | (rw [if_neg (by intro e; cases e)]; with_reducible refine hK0 _ (wpQuiet_step (fun K1 hK1 => ?_)))
        clear hK0 K0
        go_simp
        first | (with_reducible refine hK1 _ (wpQuiet_step (fun K0 hK0 => ?_))) | (with_reducible refine ⟨_, fun _ _ => rfl, hK1 _ (wpQuiet_step (fun K0 hK0 => ?_))⟩) | (rw [if_neg (by intro e; cases e)]; with_reducible refine hK1 _ (wpQuiet_step (fun K0 hK0 => ?_)))
        clear hK1 K1
        go_simp
        first | (with_reducible refine hK0 _ (wpQuiet_step (fun K1 hK1 => ?_))) | (with_reducible refine ⟨_, fun _ _ => rfl, hK0 _ (wpQuiet_step (fun K1 hK1 => ?_))⟩) | (rw [if_neg (by intro e; cases e)]; with_reducible refine hK0 _ (wpQuiet_step (fun K1 hK1 => ?_)))
        clear hK0 K0
        go_simp
        first | (with_reducible refine hK1 _ (wpQuiet_nil ?_)) | (with_reducible refine ⟨_, fun _ _ => rfl, hK1 _ (wpQuiet_nil ?_)⟩) | (rw [if_neg (by intro e; cases e)]; with_reducible refine hK1 _ (wpQuiet_nil ?_))
        clear hK1 K1
        intro w2 H2
        have HB2 := hide (HB.out.trans (H2.mono HB.out.size))
        have AF := hide (show ((L.take (k + 1)).any (fun y => decide (y.kind = kd ∧ y.p = q ∧ y.n = n))) = false by rw [AS.out]; exact PP.out)
        clear AS FH PP HY TW QW H2 c0 HB ZK
        go_wp2
        go_roundw
        case rel => exact ⟨k + 1, hlt, by go_num, AF, HB2⟩
        case measure => simp [intOf]; omega
    · have hlt2 : ¬ (k : Int) < (L.length : Int) := by omega
      have FE := hide (show findL L kd q n = none by rw [FL.out]; exact find_nowhere (by have := HA.out; rwa [show k = L.length by omega] at this))
      obtain ⟨z0, z1, z2, z3, z4, z5, z6, z7⟩ := ZK.out.cells
      have f0 := frozen_at ZK.out 0
      have f1 := frozen_at ZK.out 1
      have f2 := frozen_at ZK.out 2
      have f3 := frozen_at ZK.out 3
      have f4 := frozen_at ZK.out 4
      have f5 := frozen_at ZK.out 5
      have f6 := frozen_at ZK.out 6
      have f7 := frozen_at ZK.out 7
      have BE := hide (chain HB0.out HB.out)
      have hzw : w.heap.size ≤ w.heap.size + 1 := by omega
      clear HTk HA
      go_wp2
      refine bodyPost_ret (v := .tuple #[zLv, .bool false]) (by simp [results, Tryz.results26, go_sem, z0, z1, z2, z3, z4, z5, z6, z7]) rfl ⟨by rw [FE.out]; rfl, ?_⟩
      exact (((((((BE.out.setCell hzw _).setCell hzw _).setCell hzw _).setCell hzw _).setCell hzw _).setCell hzw _).setCell hzw _).setCell hzw _
end Go.Proofs.YtpldkgollhbolaaGreat
