/-
  Contracts of slices.MinFunc and slices.MaxFunc at two addresses and Cmp. Condition: the words are words of 64 bits.
-/
import Derived.Test.YtbcdmnlkbghkpaaSpanT
namespace Go.Proofs.Ytbcdmnlkbghkpaa
open Go.RowKit Go.Joins

/-- the row of two, the result's block -/
def HMn (w : World) (g : Nat) (x : Rg) (r : Nat) (W : World) : Prop := Below w.heap.size w W ∧ Two w.heap.size r W ∧ Four g x W
/-- and the block of the least or greatest so far -/
def HMn2 (w : World) (g : Nat) (x : Rg) (m : Nat) (W : World) : Prop := Below w.heap.size w W ∧ Two w.heap.size 0 W ∧ Two (w.heap.size + 1) m W ∧ Four g x W
theorem HMn2.step {w : World} {g : Nat} {x : Rg} {m : Nat} {W w2 : World} (h : HMn2 w g x m W) (hb : Below W.heap.size W w2) : HMn2 w g x m w2 := ⟨h.1.trans (hb.mono h.1.size), h.2.1.step hb, h.2.2.1.step hb, h.2.2.2.step hb⟩
theorem HMn2.drew {w : World} {g : Nat} {x : Rg} {m : Nat} {W : World} (h : HMn2 w g x m W) : HMn2 w g x m { W with drawn := W.drawn + 1 } := h.step (Below.refl _ _).drew
theorem mn_new {w : World} {g : Nat} {x : Rg} (h : HMn w g x 0 (w.alloc (.cells #[.int .u64 0, .int .u64 0] 25))) (a : Nat) : HMn2 w g x a ((w.alloc (.cells #[.int .u64 0, .int .u64 0] 25)).alloc (.cells #[.int .u64 (hi a : Nat), .int .u64 (lo a : Nat)] 25)) := by
  have h2 := two_new (w.alloc (.cells #[.int .u64 0, .int .u64 0] 25)) a 25
  rw [World.size_alloc] at h2
  exact ⟨chain h.1 (below_alloc _ _), h.2.1.step (below_alloc _ _), h2, h.2.2.step (below_alloc _ _)⟩
theorem HMn2.put {w : World} {g : Nat} {x : Rg} {m : Nat} {W : World} (h : HMn2 w g x m W) (hg : g < w.heap.size) (y : Nat) : HMn2 w g x y ((W.setCell ⟨w.heap.size + 1, 0, none⟩ (.int .u64 (hi y : Nat))).setCell ⟨w.heap.size + 1, 1, none⟩ (.int .u64 (lo y : Nat))) :=
  ⟨(h.1.setCell (by dsimp only; omega) _).setCell (by dsimp only; omega) _, (h.2.1.set (by dsimp only; omega) _).set (by dsimp only; omega) _, h.2.2.1.put y, (h.2.2.2.set (by dsimp only; omega) _).set (by dsimp only; omega) _⟩
def MinR (w : World) (g : Nat) (x : Rg) (a m : Nat) (i : Value) (W : World) : Prop := (i = .int .i64 1 ∧ HMn2 w g x a W) ∨ (i = .int .i64 2 ∧ HMn2 w g x m W)
theorem cmp_lt (a b : Nat) : decide (cmpS a b < 0) = decide (a < b) := by
  unfold cmpS
  rw [decide_eq_decide]
  repeat' split
  all_goals omega

set_option maxRecDepth 100000 in
set_option maxHeartbeats 1000000 in
theorem min_any {g a b : Nat} (w : World) (h : Four g (a, b) w) :
    Calls Try.prog 37 #[.slice (some ⟨g, 0, none⟩) 2 2, .func (.func 29) #[] #[]] w (Gives (A (min a b)) w) := by
  have hg := h.1
  have CM := hide (fun W => cmp_any b a W)
  have C0 := hide (cmp_lt b a)
  have V0 := hide (show min a b = if b < a then b else a by split <;> omega)
  have H0 : HMn w g (a, b) 0 ((w.alloc (.cells #[.int .u64 0, .int .u64 0] 25))) := ⟨below_alloc _ _, two_zero _ _, h.step (below_alloc _ _)⟩
  go_enter Try.func37, Try.ntmps37
  obtain ⟨_, _, h0, ⟨h1, h2, h3, h4⟩, _⟩ := id H0
  go_wp2
  clear h0 h1 h2 h3 h4
  have H1 := mn_new H0 a
  generalize (w.alloc (.cells #[.int .u64 0, .int .u64 0] 25)).alloc (.cells #[.int .u64 (hi a : Nat), .int .u64 (lo a : Nat)] 25) = V at H1 ⊢
  clear H0
  go_loopw [6] (fun i wr => MinR w g (a, b) a (min a b) i wr) (fun i _ => 2 - (intOf i).toNat)
  case atStart => exact Or.inl ⟨rfl, H1⟩
  case round =>
    rcases hrel with ⟨rfl, HH⟩ | ⟨rfl, HH⟩
    · clear H1
      by_cases P : b < a
      · have P0 : cmpS b a < 0 := by have := C0.out; rw [decide_eq_true P] at this; simpa using this
        have VE := hide (show min a b = b by rw [V0.out, if_pos P])
        clear P
        go_wp2_with fail
        refine wp_region_quiet (C := HMn2 w g (a, b) a) (by kernel_rfl) (by kernel_rfl) HH.drew (wpQuiet_step (fun K0 hK0 => ?_))
        go_simp
        first | (with_reducible refine hK0 _ (wpQuiet_step (fun K1 hK1 => ?_))) | (with_reducible refine ⟨_, fun _ _ => rfl, hK0 _ (wpQuiet_step (fun K1 hK1 => ?_))⟩) | (rw [if_neg (by intro e; cases e)]; with_reducible refine hK0 _ (wpQuiet_step (fun K1 hK1 => ?_)))
        clear hK0 K0
        go_simp
        first | (with_reducible refine hK1 _ (wpQuiet_step (fun K0 hK0 => ?_))) | (with_reducible refine ⟨_, fun _ _ => rfl, hK1 _ (wpQuiet_step (fun K0 hK0 => ?_))⟩) | (rw [if_neg (by intro e; cases e)]; with_reducible refine hK1 _ (wpQuiet_step (fun K0 hK0 => ?_)))
        clear hK1 K1
        go_simp
        first | (with_reducible refine hK0 _ (wpQuiet_step (fun K1 hK1 => ?_))) | (with_reducible refine ⟨_, fun _ _ => rfl, hK0 _ (wpQuiet_step (fun K1 hK1 => ?_))⟩) | (rw [if_neg (by intro e; cases e)]; with_reducible refine hK0 _ (wpQuiet_step (fun K1 hK1 => ?_)))
        clear hK0 K0
        go_simp
        first | (with_reducible refine hK1 _ (wpQuiet_step (fun K0 hK0 => ?_))) | (with_reducible refine ⟨_, fun _ _ => rfl, hK1 _ (wpQuiet_step (fun K0 hK0 => ?_))⟩) | (rw [if_neg (by intro e; cases e)]; with_reducible refine hK1 _ (wpQuiet_step (fun K0 hK0 => ?_)))
        clear hK1 K1
        go_simp
        refine ⟨A b, fun W hW => ?_, hK0 _ (wpQuiet_step (fun K1 hK1 => ?_))⟩
        · ((obtain ⟨_, _, _, _, ⟨u0, u1, u2, u3⟩, _⟩ := hW; simp [go_sem, u2, u3]))
        clear hK0 K0
        go_simp
        refine ⟨A a, fun W hW => ?_, hK1 _ (wpQuiet_step (fun K0 hK0 => ?_))⟩
        · ((obtain ⟨_, _, ⟨_, u0, u1, _⟩, _⟩ := hW; simp [go_sem, u0, u1]))
        clear hK1 K1
        go_simp
        refine ⟨.int .i64 (cmpS b a), fun W hW => ?_, hK0 _ (wpQuiet_step (fun K1 hK1 => ?_))⟩
        · exact (CM.out W).mono fun e w2 ⟨he, hb⟩ => ⟨he, HMn2.step hW hb⟩
        clear hK0 K0
        go_simp
        first | (with_reducible refine hK1 _ (wpQuiet_nil ?_)) | (with_reducible refine ⟨_, fun _ _ => rfl, hK1 _ (wpQuiet_nil ?_)⟩) | (rw [if_neg (by intro e; cases e)]; with_reducible refine hK1 _ (wpQuiet_nil ?_))
        clear hK1 K1
        intro w2 H2
        clear HH
        obtain ⟨_, _, ⟨t0, t1, t2, t3, t4⟩, h0, ⟨h1, h2, h3, h4⟩, _⟩ := id H2
        go_wp2
        go_roundw
        case rel => exact Or.inr ⟨rfl, by rw [VE.out]; exact H2.put hg b⟩
        case measure => simp [intOf]
      · have P0 : ¬ cmpS b a < 0 := by have := C0.out; rw [decide_eq_false P] at this; simpa using this
        have VE := hide (show min a b = a by rw [V0.out, if_neg P])
        clear P
        go_wp2_with fail
        refine wp_region_quiet (C := HMn2 w g (a, b) a) (by kernel_rfl) (by kernel_rfl) HH.drew (wpQuiet_step (fun K0 hK0 => ?_))
        go_simp
        first | (with_reducible refine hK0 _ (wpQuiet_step (fun K1 hK1 => ?_))) | (with_reducible refine ⟨_, fun _ _ => rfl, hK0 _ (wpQuiet_step (fun K1 hK1 => ?_))⟩) | (rw [if_neg (by intro e; cases e)]; with_reducible refine hK0 _ (wpQuiet_step (fun K1 hK1 => ?_)))
        clear hK0 K0
        go_simp
        first | (with_reducible refine hK1 _ (wpQuiet_step (fun K0 hK0 => ?_))) | (with_reducible refine ⟨_, fun _ _ => rfl, hK1 _ (wpQuiet_step (fun K0 hK0 => ?_))⟩) | (rw [if_neg (by intro e; cases e)]; with_reducible refine hK1 _ (wpQuiet_step (fun K0 hK0 => ?_)))
        clear hK1 K1
        go_simp
        first | (with_reducible refine hK0 _ (wpQuiet_step (fun K1 hK1 => ?_))) | (with_reducible refine ⟨_, fun _ _ => rfl, hK0 _ (wpQuiet_step (fun K1 hK1 => ?_))⟩) | (rw [if_neg (by intro e; cases e)]; with_reducible refine hK0 _ (wpQuiet_step (fun K1 hK1 => ?_)))
        clear hK0 K0
        go_simp
        first | (with_reducible refine hK1 _ (wpQuiet_step (fun K0 hK0 => ?_))) | (with_reducible refine ⟨_, fun _ _ => rfl, hK1 _ (wpQuiet_step (fun K0 hK0 => ?_))⟩) | (rw [if_neg (by intro e; cases e)]; with_reducible refine hK1 _ (wpQuiet_step (fun K0 hK0 => ?_)))
        clear hK1 K1
        go_simp
        refine ⟨A b, fun W hW => ?_, hK0 _ (wpQuiet_step (fun K1 hK1 => ?_))⟩
        · ((obtain ⟨_, _, _, _, ⟨u0, u1, u2, u3⟩, _⟩ := hW; simp [go_sem, u2, u3]))
        clear hK0 K0
        go_simp
        refine ⟨A a, fun W hW => ?_, hK1 _ (wpQuiet_step (fun K0 hK0 => ?_))⟩
        · ((obtain ⟨_, _, ⟨_, u0, u1, _⟩, _⟩ := hW; simp [go_sem, u0, u1]))
        clear hK1 K1
        go_simp
        refine ⟨.int .i64 (cmpS b a), fun W hW => ?_, hK0 _ (wpQuiet_step (fun K1 hK1 => ?_))⟩
        · exact (CM.out W).mono fun e w2 ⟨he, hb⟩ => ⟨he, HMn2.step hW hb⟩
        clear hK0 K0
        go_simp
        first | (with_reducible refine hK1 _ (wpQuiet_nil ?_)) | (with_reducible refine ⟨_, fun _ _ => rfl, hK1 _ (wpQuiet_nil ?_)⟩) | (rw [if_neg (by intro e; cases e)]; with_reducible refine hK1 _ (wpQuiet_nil ?_))
        clear hK1 K1
        intro w2 H2
        clear HH
        go_wp2
        go_roundw
        case rel => exact Or.inr ⟨rfl, by rw [VE.out]; exact H2⟩
        case measure => simp [intOf]
    · clear H1
      generalize min a b = m at *
      obtain ⟨HB, ⟨z0, z1, z2, z3, z4⟩, ⟨t0, t1, t2, t3, t4⟩, _⟩ := id HH
      go_wp2
      refine bodyPost_ret (v := A m) (by simp [results, Try.results37, go_sem, z1, z2]) rfl ⟨rfl, ?_⟩
      have hzB := HB.size
      repeat' (first | (with_reducible exact HB) | (with_reducible apply Below.drew) | (with_reducible apply Below.alloc) | (with_reducible apply Below.setCell))
      all_goals first | omega | (dsimp only; omega) | ((try simp); omega)

set_option maxRecDepth 100000 in
set_option maxHeartbeats 1000000 in
theorem max_any {g a b : Nat} (w : World) (h : Four g (a, b) w) :
    Calls Try.prog 38 #[.slice (some ⟨g, 0, none⟩) 2 2, .func (.func 29) #[] #[]] w (Gives (A (max a b)) w) := by
  have hg := h.1
  have CM := hide (fun W => cmp_any b a W)
  have C0 := hide (cmp_gt b a)
  have V0 := hide (show max a b = if a < b then b else a by split <;> omega)
  have H0 : HMn w g (a, b) 0 ((w.alloc (.cells #[.int .u64 0, .int .u64 0] 25))) := ⟨below_alloc _ _, two_zero _ _, h.step (below_alloc _ _)⟩
  go_enter Try.func38, Try.ntmps38
  obtain ⟨_, _, h0, ⟨h1, h2, h3, h4⟩, _⟩ := id H0
  go_wp2
  clear h0 h1 h2 h3 h4
  have H1 := mn_new H0 a
  generalize (w.alloc (.cells #[.int .u64 0, .int .u64 0] 25)).alloc (.cells #[.int .u64 (hi a : Nat), .int .u64 (lo a : Nat)] 25) = V at H1 ⊢
  clear H0
  go_loopw [6] (fun i wr => MinR w g (a, b) a (max a b) i wr) (fun i _ => 2 - (intOf i).toNat)
  case atStart => exact Or.inl ⟨rfl, H1⟩
  case round =>
    rcases hrel with ⟨rfl, HH⟩ | ⟨rfl, HH⟩
    · clear H1
      by_cases P : a < b
      · have P0 : 0 < cmpS b a := by have := C0.out; rw [decide_eq_true P] at this; simpa using this
        have VE := hide (show max a b = b by rw [V0.out, if_pos P])
        clear P
        go_wp2_with fail
        refine wp_region_quiet (C := HMn2 w g (a, b) a) (by kernel_rfl) (by kernel_rfl) HH.drew (wpQuiet_step (fun K0 hK0 => ?_))
        go_simp
        first | (with_reducible refine hK0 _ (wpQuiet_step (fun K1 hK1 => ?_))) | (with_reducible refine ⟨_, fun _ _ => rfl, hK0 _ (wpQuiet_step (fun K1 hK1 => ?_))⟩) | (rw [if_neg (by intro e; cases e)]; with_reducible refine hK0 _ (wpQuiet_step (fun K1 hK1 => ?_)))
        clear hK0 K0
        go_simp
        first | (with_reducible refine hK1 _ (wpQuiet_step (fun K0 hK0 => ?_))) | (with_reducible refine ⟨_, fun _ _ => rfl, hK1 _ (wpQuiet_step (fun K0 hK0 => ?_))⟩) | (rw [if_neg (by intro e; cases e)]; with_reducible refine hK1 _ (wpQuiet_step (fun K0 hK0 => ?_)))
        clear hK1 K1
        go_simp
        first | (with_reducible refine hK0 _ (wpQuiet_step (fun K1 hK1 => ?_))) | (with_reducible refine ⟨_, fun _ _ => rfl, hK0 _ (wpQuiet_step (fun K1 hK1 => ?_))⟩) | (rw [if_neg (by intro e; cases e)]; with_reducible refine hK0 _ (wpQuiet_step (fun K1 hK1 => ?_)))
        clear hK0 K0
        go_simp
        first | (with_reducible refine hK1 _ (wpQuiet_step (fun K0 hK0 => ?_))) | (with_reducible refine ⟨_, fun _ _ => rfl, hK1 _ (wpQuiet_step (fun K0 hK0 => ?_))⟩) | (rw [if_neg (by intro e; cases e)]; with_reducible refine hK1 _ (wpQuiet_step (fun K0 hK0 => ?_)))
        clear hK1 K1
        go_simp
        refine ⟨A b, fun W hW => ?_, hK0 _ (wpQuiet_step (fun K1 hK1 => ?_))⟩
        · ((obtain ⟨_, _, _, _, ⟨u0, u1, u2, u3⟩, _⟩ := hW; simp [go_sem, u2, u3]))
        clear hK0 K0
        go_simp
        refine ⟨A a, fun W hW => ?_, hK1 _ (wpQuiet_step (fun K0 hK0 => ?_))⟩
        · ((obtain ⟨_, _, ⟨_, u0, u1, _⟩, _⟩ := hW; simp [go_sem, u0, u1]))
        clear hK1 K1
        go_simp
        refine ⟨.int .i64 (cmpS b a), fun W hW => ?_, hK0 _ (wpQuiet_step (fun K1 hK1 => ?_))⟩
        · exact (CM.out W).mono fun e w2 ⟨he, hb⟩ => ⟨he, HMn2.step hW hb⟩
        clear hK0 K0
        go_simp
        first | (with_reducible refine hK1 _ (wpQuiet_nil ?_)) | (with_reducible refine ⟨_, fun _ _ => rfl, hK1 _ (wpQuiet_nil ?_)⟩) | (rw [if_neg (by intro e; cases e)]; with_reducible refine hK1 _ (wpQuiet_nil ?_))
        clear hK1 K1
        intro w2 H2
        clear HH
        obtain ⟨_, _, ⟨t0, t1, t2, t3, t4⟩, h0, ⟨h1, h2, h3, h4⟩, _⟩ := id H2
        go_wp2
        go_roundw
        case rel => exact Or.inr ⟨rfl, by rw [VE.out]; exact H2.put hg b⟩
        case measure => simp [intOf]
      · have P0 : ¬ 0 < cmpS b a := by have := C0.out; rw [decide_eq_false P] at this; simpa using this
        have VE := hide (show max a b = a by rw [V0.out, if_neg P])
        clear P
        go_wp2_with fail
        refine wp_region_quiet (C := HMn2 w g (a, b) a) (by kernel_rfl) (by kernel_rfl) HH.drew (wpQuiet_step (fun K0 hK0 => ?_))
        go_simp
        first | (with_reducible refine hK0 _ (wpQuiet_step (fun K1 hK1 => ?_))) | (with_reducible refine ⟨_, fun _ _ => rfl, hK0 _ (wpQuiet_step (fun K1 hK1 => ?_))⟩) | (rw [if_neg (by intro e; cases e)]; with_reducible refine hK0 _ (wpQuiet_step (fun K1 hK1 => ?_)))
        clear hK0 K0
        go_simp
        first | (with_reducible refine hK1 _ (wpQuiet_step (fun K0 hK0 => ?_))) | (with_reducible refine ⟨_, fun _ _ => rfl, hK1 _ (wpQuiet_step (fun K0 hK0 => ?_))⟩) | (rw [if_neg (by intro e; cases e)]; with_reducible refine hK1 _ (wpQuiet_step (fun K0 hK0 => ?_)))
        clear hK1 K1
        go_simp
        first | (with_reducible refine hK0 _ (wpQuiet_step (fun K1 hK1 => ?_))) | (with_reducible refine ⟨_, fun _ _ => rfl, hK0 _ (wpQuiet_step (fun K1 hK1 => ?_))⟩) | (rw [if_neg (by intro e; cases e)]; with_reducible refine hK0 _ (wpQuiet_step (fun K1 hK1 => ?_)))
        clear hK0 K0
        go_simp
        first | (with_reducible refine hK1 _ (wpQuiet_step (fun K0 hK0 => ?_))) | (with_reducible refine ⟨_, fun _ _ => rfl, hK1 _ (wpQuiet_step (fun K0 hK0 => ?_))⟩) | (rw [if_neg (by intro e; cases e)]; with_reducible refine hK1 _ (wpQuiet_step (fun K0 hK0 => ?_)))
        clear hK1 K1
        go_simp
        refine ⟨A b, fun W hW => ?_, hK0 _ (wpQuiet_step (fun K1 hK1 => ?_))⟩
        · ((obtain ⟨_, _, _, _, ⟨u0, u1, u2, u3⟩, _⟩ := hW; simp [go_sem, u2, u3]))
        clear hK0 K0
        go_simp
        refine ⟨A a, fun W hW => ?_, hK1 _ (wpQuiet_step (fun K0 hK0 => ?_))⟩
        · ((obtain ⟨_, _, ⟨_, u0, u1, _⟩, _⟩ := hW; simp [go_sem, u0, u1]))
        clear hK1 K1
        go_simp
        refine ⟨.int .i64 (cmpS b a), fun W hW => ?_, hK0 _ (wpQuiet_step (fun K1 hK1 => ?_))⟩
        · exact (CM.out W).mono fun e w2 ⟨he, hb⟩ => ⟨he, HMn2.step hW hb⟩
        clear hK0 K0
        go_simp
        first | (with_reducible refine hK1 _ (wpQuiet_nil ?_)) | (with_reducible refine ⟨_, fun _ _ => rfl, hK1 _ (wpQuiet_nil ?_)⟩) | (rw [if_neg (by intro e; cases e)]; with_reducible refine hK1 _ (wpQuiet_nil ?_))
        clear hK1 K1
        intro w2 H2
        clear HH
        go_wp2
        go_roundw
        case rel => exact Or.inr ⟨rfl, by rw [VE.out]; exact H2⟩
        case measure => simp [intOf]
    · clear H1
      generalize max a b = m at *
      obtain ⟨HB, ⟨z0, z1, z2, z3, z4⟩, ⟨t0, t1, t2, t3, t4⟩, _⟩ := id HH
      go_wp2
      refine bodyPost_ret (v := A m) (by simp [results, Try.results38, go_sem, z1, z2]) rfl ⟨rfl, ?_⟩
      have hzB := HB.size
      repeat' (first | (with_reducible exact HB) | (with_reducible apply Below.drew) | (with_reducible apply Below.alloc) | (with_reducible apply Below.setCell))
      all_goals first | omega | (dsimp only; omega) | ((try simp); omega)
end Go.Proofs.Ytbcdmnlkbghkpaa
