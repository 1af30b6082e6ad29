/-
  Contracts of the document's own Cmp, Clip, Sound, Has, Covers, Meets, Halves of layer 1: they return what the program's return. Conditions: a word is a word of 64 bits, an int is an int of 64 bits (every value of the types is such).
-/
import Derived.Test.YtpieddddckbfdaaBBase
import Derived.Test.YtpieddddckbfdaaAddrT
namespace Go.Proofs.Ytpieddddckbfdaa
open Go.RowKit Go.Joins

def Two (g a : Nat) (W : World) : Prop := W.cell? ⟨g, 0, none⟩ = some (.int .u64 (hi a : Nat)) ∧ W.cell? ⟨g, 1, none⟩ = some (.int .u64 (lo a : Nat)) ∧
  W.frozen? ⟨g, 0, none⟩ = false ∧ W.frozen? ⟨g, 1, none⟩ = false ∧ g < W.heap.size
theorem Two.step {g a : Nat} {W w2 : World} (h : Two g a W) (hb : Below W.heap.size W w2) : Two g a w2 := by
  obtain ⟨h1, h2, h3, h4, h5⟩ := h
  have z := hb.size
  exact ⟨cell_keep hb h1, cell_keep hb h2, free_keep hb h5 h3, free_keep hb h5 h4, by omega⟩
theorem two_new (V : World) (a : Nat) (t : TypeId) : Two V.heap.size a (V.alloc (.cells #[.int .u64 (hi a : Nat), .int .u64 (lo a : Nat)] t)) := by
  refine ⟨by simp, by simp, ?_, ?_, by simp⟩ <;> simp [go_sem]
theorem two_zero (V : World) (t : TypeId) : Two V.heap.size 0 (V.alloc (.cells #[.int .u64 0, .int .u64 0] t)) := two_new V 0 t
theorem Two.put {g a : Nat} {W : World} (h : Two g a W) (y : Nat) : Two g y ((W.setCell ⟨g, 0, none⟩ (.int .u64 (hi y : Nat))).setCell ⟨g, 1, none⟩ (.int .u64 (lo y : Nat))) := by
  obtain ⟨h1, h2, h3, h4, h5⟩ := h
  refine ⟨?_, ?_, ?_, ?_, by simp; exact h5⟩
  all_goals simp [go_sem, *]
theorem Two.set {g a : Nat} {W : World} (h : Two g a W) {p : Addr} (hp : g ≠ p.block) (u : Value) : Two g a (W.setCell p u) := by
  obtain ⟨h1, h2, h3, h4, h5⟩ := h
  have k : ∀ o, (W.setCell p u).cell? ⟨g, o, none⟩ = W.cell? ⟨g, o, none⟩ := fun o => World.cell?_of_block (w := W) (Below.heap_setCell W p u g hp)
  have f : ∀ o, (W.setCell p u).frozen? ⟨g, o, none⟩ = W.frozen? ⟨g, o, none⟩ := fun o => World.frozen?_of_block (w := W) (Below.heap_setCell W p u g hp)
  exact ⟨by rw [k]; exact h1, by rw [k]; exact h2, by rw [f]; exact h3, by rw [f]; exact h4, by simp; exact h5⟩
/-- one box -/
def H1 (w : World) (a : Nat) (W : World) : Prop := Below w.heap.size w W ∧ Two w.heap.size a W
theorem H1.step {w : World} {a : Nat} {W w2 : World} (hb : Below W.heap.size W w2) (h : H1 w a W) : H1 w a w2 := ⟨h.1.trans (hb.mono h.1.size), h.2.step hb⟩
/-- two boxes -/
def H2 (w : World) (a b : Nat) (W : World) : Prop := Below w.heap.size w W ∧ Two w.heap.size a W ∧ Two (w.heap.size + 1) b W
theorem H2.step {w : World} {a b : Nat} {W w2 : World} (hb : Below W.heap.size W w2) (h : H2 w a b W) : H2 w a b w2 := ⟨h.1.trans (hb.mono h.1.size), h.2.1.step hb, h.2.2.step hb⟩
theorem H2.drew {w : World} {a b : Nat} {W : World} (h : H2 w a b W) : H2 w a b W.drew := H2.step (below_drew W) h
theorem h1_new (w : World) (a : Nat) (t : TypeId) : H1 w a (w.alloc (.cells #[.int .u64 (hi a : Nat), .int .u64 (lo a : Nat)] t)) := ⟨below_alloc _ _, two_new w a t⟩
theorem h2_new (w : World) (a b : Nat) (t : TypeId) : H2 w a b ((w.alloc (.cells #[.int .u64 (hi a : Nat), .int .u64 (lo a : Nat)] t)).alloc (.cells #[.int .u64 (hi b : Nat), .int .u64 (lo b : Nat)] t)) := by
  refine ⟨(below_alloc w _).alloc (by simp) _, (two_new w a t).step (below_alloc _ _), ?_⟩
  have := two_new (w.alloc (.cells #[.int .u64 (hi a : Nat), .int .u64 (lo a : Nat)] t)) b t
  simpa using this
theorem bit_nat {a : Nat} (ha : Fits a) (k v : Nat) (h : k < 128) (e : bitS a k = v) (w : World) :
    Calls Try.prog 56 #[A a, .int .i64 (k : Nat)] w (Gives (.int .u64 (v : Nat)) w) := by
  subst e
  have := bit_any ha (k : Int) (by omega) (by omega) w
  rwa [Int.toNat_natCast] at this
theorem with_nat {a : Nat} (ha : Fits a) (k : Nat) (h : k < 128) (w : World) :
    Calls Try.prog 70 #[A a, .int .i64 (k : Nat)] w (Gives (A (withS a k)) w) := by
  have := with_any ha (k : Int) (by omega) (by omega) w
  rwa [Int.toNat_natCast] at this
set_option maxRecDepth 100000 in
set_option maxHeartbeats 1000000 in
theorem rcmp_any {a b : Nat} (ha : Fits a) (hb : Fits b) (w : World) :
    Calls Try.prog 28 #[A a, A b] w (Gives (.int .i64 (cmpS a b)) w) := by
  go_enter Try.func28, Try.ntmps28
  go_wp2_with fail
  go_loopw [5] (fun i wr => ∃ k : Nat, k ≤ 128 ∧ i = .int .i64 k ∧ Hid (a / 2 ^ (128 - k) = b / 2 ^ (128 - k)) ∧ H2 w a b wr) (fun i _ => 128 - (intOf i).toNat)
  case atStart => exact ⟨0, by omega, rfl, hide (cmp_start ha hb), h2_new w a b _⟩
  case round =>
    obtain ⟨k, hk, rfl, E, HH⟩ := hrel
    by_cases hlt : k < 128
    · have b1 := bitS_lt a k
      have b2 := bitS_lt b k
      have hx : bitS a k = 0 ∨ bitS a k = 1 := by omega
      have hy : bitS b k = 0 ∨ bitS b k = 1 := by omega
      clear b1 b2
      rcases hx with hx | hx
      · have HX := hide hx
        clear hx
        rcases hy with hy | hy
        · have HY := hide hy
          clear hy
          go_wp2_with fail
          refine wp_region_quiet (C := H2 w a b) (by kernel_rfl) (by kernel_rfl) (H2.drew HH) ?_
          refine wpQuiet_step (fun K hK => ?_)
          go_simp
          refine ⟨A a, fun W hW => ?_, hK _ ?_⟩
          · (obtain ⟨_, ⟨u0, u1, _⟩, v0, v1, _⟩ := hW; simp [go_sem, u0, u1])
          clear hK K
          refine wpQuiet_step (fun K hK => ?_)
          go_simp
          first | refine ⟨_, fun _ _ => rfl, hK _ ?_⟩ | refine hK _ ?_
          clear hK K
          refine wpQuiet_step (fun K hK => ?_)
          go_simp
          refine ⟨.int .u64 (0 : Nat), fun W hW => ?_, hK _ ?_⟩
          · exact (bit_nat ha k 0 hlt (by first | exact HX.out | rfl) W).mono fun e w2 ⟨he, hb⟩ => ⟨he, H2.step hb hW⟩
          clear hK K
          refine wpQuiet_step (fun K hK => ?_)
          go_simp
          refine ⟨A b, fun W hW => ?_, hK _ ?_⟩
          · (obtain ⟨_, ⟨u0, u1, _⟩, v0, v1, _⟩ := hW; simp [go_sem, v0, v1])
          clear hK K
          refine wpQuiet_step (fun K hK => ?_)
          go_simp
          first | refine ⟨_, fun _ _ => rfl, hK _ ?_⟩ | refine hK _ ?_
          clear hK K
          refine wpQuiet_step (fun K hK => ?_)
          go_simp
          refine ⟨.int .u64 (0 : Nat), fun W hW => ?_, hK _ ?_⟩
          · exact (bit_nat hb k 0 hlt (by first | exact HY.out | rfl) W).mono fun e w2 ⟨he, hb⟩ => ⟨he, H2.step hb hW⟩
          clear hK K
          refine wpQuiet_step (fun K hK => ?_)
          go_simp
          first | refine ⟨_, fun _ _ => rfl, hK _ ?_⟩ | refine hK _ ?_
          clear hK K
          refine wpQuiet_nil ?_
          intro wx HF
          go_wp2_with fail
          refine wp_region_quiet (C := H2 w a b) (by kernel_rfl) (by kernel_rfl) (H2.drew HF) ?_
          refine wpQuiet_step (fun K hK => ?_)
          go_simp
          refine ⟨A a, fun W hW => ?_, hK _ ?_⟩
          · (obtain ⟨_, ⟨u0, u1, _⟩, v0, v1, _⟩ := hW; simp [go_sem, u0, u1])
          clear hK K
          refine wpQuiet_step (fun K hK => ?_)
          go_simp
          first | refine ⟨_, fun _ _ => rfl, hK _ ?_⟩ | refine hK _ ?_
          clear hK K
          refine wpQuiet_step (fun K hK => ?_)
          go_simp
          refine ⟨.int .u64 (0 : Nat), fun W hW => ?_, hK _ ?_⟩
          · exact (bit_nat ha k 0 hlt (by first | exact HX.out | rfl) W).mono fun e w2 ⟨he, hb⟩ => ⟨he, H2.step hb hW⟩
          clear hK K
          refine wpQuiet_step (fun K hK => ?_)
          go_simp
          refine ⟨A b, fun W hW => ?_, hK _ ?_⟩
          · (obtain ⟨_, ⟨u0, u1, _⟩, v0, v1, _⟩ := hW; simp [go_sem, v0, v1])
          clear hK K
          refine wpQuiet_step (fun K hK => ?_)
          go_simp
          first | refine ⟨_, fun _ _ => rfl, hK _ ?_⟩ | refine hK _ ?_
          clear hK K
          refine wpQuiet_step (fun K hK => ?_)
          go_simp
          refine ⟨.int .u64 (0 : Nat), fun W hW => ?_, hK _ ?_⟩
          · exact (bit_nat hb k 0 hlt (by first | exact HY.out | rfl) W).mono fun e w2 ⟨he, hb⟩ => ⟨he, H2.step hb hW⟩
          clear hK K
          refine wpQuiet_step (fun K hK => ?_)
          go_simp
          first | refine ⟨_, fun _ _ => rfl, hK _ ?_⟩ | refine hK _ ?_
          clear hK K
          refine wpQuiet_nil ?_
          intro wx HF
          go_wp2
          go_roundw
          case rel => exact ⟨k + 1, by omega, by go_num, hide (cmp_on hlt E.out (by rw [HX.out, HY.out])), HF⟩
          case measure => simp [intOf]; omega
        · have HY := hide hy
          clear hy
          go_wp2_with fail
          refine wp_region_quiet (C := H2 w a b) (by kernel_rfl) (by kernel_rfl) (H2.drew HH) ?_
          refine wpQuiet_step (fun K hK => ?_)
          go_simp
          refine ⟨A a, fun W hW => ?_, hK _ ?_⟩
          · (obtain ⟨_, ⟨u0, u1, _⟩, v0, v1, _⟩ := hW; simp [go_sem, u0, u1])
          clear hK K
          refine wpQuiet_step (fun K hK => ?_)
          go_simp
          first | refine ⟨_, fun _ _ => rfl, hK _ ?_⟩ | refine hK _ ?_
          clear hK K
          refine wpQuiet_step (fun K hK => ?_)
          go_simp
          refine ⟨.int .u64 (0 : Nat), fun W hW => ?_, hK _ ?_⟩
          · exact (bit_nat ha k 0 hlt (by first | exact HX.out | rfl) W).mono fun e w2 ⟨he, hb⟩ => ⟨he, H2.step hb hW⟩
          clear hK K
          refine wpQuiet_step (fun K hK => ?_)
          go_simp
          refine ⟨A b, fun W hW => ?_, hK _ ?_⟩
          · (obtain ⟨_, ⟨u0, u1, _⟩, v0, v1, _⟩ := hW; simp [go_sem, v0, v1])
          clear hK K
          refine wpQuiet_step (fun K hK => ?_)
          go_simp
          first | refine ⟨_, fun _ _ => rfl, hK _ ?_⟩ | refine hK _ ?_
          clear hK K
          refine wpQuiet_step (fun K hK => ?_)
          go_simp
          refine ⟨.int .u64 (1 : Nat), fun W hW => ?_, hK _ ?_⟩
          · exact (bit_nat hb k 1 hlt (by first | exact HY.out | rfl) W).mono fun e w2 ⟨he, hb⟩ => ⟨he, H2.step hb hW⟩
          clear hK K
          refine wpQuiet_step (fun K hK => ?_)
          go_simp
          first | refine ⟨_, fun _ _ => rfl, hK _ ?_⟩ | refine hK _ ?_
          clear hK K
          refine wpQuiet_nil ?_
          intro wx HF
          go_wp2
          go_ret
          exact ⟨congrArg Ending.returned (i64_eq (cmpS_lt (cmp_less hlt E.out (by rw [HX.out, HY.out]; omega))).symm), HF.1⟩
      · have HX := hide hx
        clear hx
        rcases hy with hy | hy
        · have HY := hide hy
          clear hy
          go_wp2_with fail
          refine wp_region_quiet (C := H2 w a b) (by kernel_rfl) (by kernel_rfl) (H2.drew HH) ?_
          refine wpQuiet_step (fun K hK => ?_)
          go_simp
          refine ⟨A a, fun W hW => ?_, hK _ ?_⟩
          · (obtain ⟨_, ⟨u0, u1, _⟩, v0, v1, _⟩ := hW; simp [go_sem, u0, u1])
          clear hK K
          refine wpQuiet_step (fun K hK => ?_)
          go_simp
          first | refine ⟨_, fun _ _ => rfl, hK _ ?_⟩ | refine hK _ ?_
          clear hK K
          refine wpQuiet_step (fun K hK => ?_)
          go_simp
          refine ⟨.int .u64 (1 : Nat), fun W hW => ?_, hK _ ?_⟩
          · exact (bit_nat ha k 1 hlt (by first | exact HX.out | rfl) W).mono fun e w2 ⟨he, hb⟩ => ⟨he, H2.step hb hW⟩
          clear hK K
          refine wpQuiet_step (fun K hK => ?_)
          go_simp
          refine ⟨A b, fun W hW => ?_, hK _ ?_⟩
          · (obtain ⟨_, ⟨u0, u1, _⟩, v0, v1, _⟩ := hW; simp [go_sem, v0, v1])
          clear hK K
          refine wpQuiet_step (fun K hK => ?_)
          go_simp
          first | refine ⟨_, fun _ _ => rfl, hK _ ?_⟩ | refine hK _ ?_
          clear hK K
          refine wpQuiet_step (fun K hK => ?_)
          go_simp
          refine ⟨.int .u64 (0 : Nat), fun W hW => ?_, hK _ ?_⟩
          · exact (bit_nat hb k 0 hlt (by first | exact HY.out | rfl) W).mono fun e w2 ⟨he, hb⟩ => ⟨he, H2.step hb hW⟩
          clear hK K
          refine wpQuiet_step (fun K hK => ?_)
          go_simp
          first | refine ⟨_, fun _ _ => rfl, hK _ ?_⟩ | refine hK _ ?_
          clear hK K
          refine wpQuiet_nil ?_
          intro wx HF
          go_wp2_with fail
          refine wp_region_quiet (C := H2 w a b) (by kernel_rfl) (by kernel_rfl) (H2.drew HF) ?_
          refine wpQuiet_step (fun K hK => ?_)
          go_simp
          refine ⟨A a, fun W hW => ?_, hK _ ?_⟩
          · (obtain ⟨_, ⟨u0, u1, _⟩, v0, v1, _⟩ := hW; simp [go_sem, u0, u1])
          clear hK K
          refine wpQuiet_step (fun K hK => ?_)
          go_simp
          first | refine ⟨_, fun _ _ => rfl, hK _ ?_⟩ | refine hK _ ?_
          clear hK K
          refine wpQuiet_step (fun K hK => ?_)
          go_simp
          refine ⟨.int .u64 (1 : Nat), fun W hW => ?_, hK _ ?_⟩
          · exact (bit_nat ha k 1 hlt (by first | exact HX.out | rfl) W).mono fun e w2 ⟨he, hb⟩ => ⟨he, H2.step hb hW⟩
          clear hK K
          refine wpQuiet_step (fun K hK => ?_)
          go_simp
          refine ⟨A b, fun W hW => ?_, hK _ ?_⟩
          · (obtain ⟨_, ⟨u0, u1, _⟩, v0, v1, _⟩ := hW; simp [go_sem, v0, v1])
          clear hK K
          refine wpQuiet_step (fun K hK => ?_)
          go_simp
          first | refine ⟨_, fun _ _ => rfl, hK _ ?_⟩ | refine hK _ ?_
          clear hK K
          refine wpQuiet_step (fun K hK => ?_)
          go_simp
          refine ⟨.int .u64 (0 : Nat), fun W hW => ?_, hK _ ?_⟩
          · exact (bit_nat hb k 0 hlt (by first | exact HY.out | rfl) W).mono fun e w2 ⟨he, hb⟩ => ⟨he, H2.step hb hW⟩
          clear hK K
          refine wpQuiet_step (fun K hK => ?_)
          go_simp
          first | refine ⟨_, fun _ _ => rfl, hK _ ?_⟩ | refine hK _ ?_
          clear hK K
          refine wpQuiet_nil ?_
          intro wx HF
          go_wp2
          go_ret
          exact ⟨congrArg Ending.returned (i64_eq (cmpS_gt (cmp_less hlt E.out.symm (by rw [HX.out, HY.out]; omega))).symm), HF.1⟩
        · have HY := hide hy
          clear hy
          go_wp2_with fail
          refine wp_region_quiet (C := H2 w a b) (by kernel_rfl) (by kernel_rfl) (H2.drew HH) ?_
          refine wpQuiet_step (fun K hK => ?_)
          go_simp
          refine ⟨A a, fun W hW => ?_, hK _ ?_⟩
          · (obtain ⟨_, ⟨u0, u1, _⟩, v0, v1, _⟩ := hW; simp [go_sem, u0, u1])
          clear hK K
          refine wpQuiet_step (fun K hK => ?_)
          go_simp
          first | refine ⟨_, fun _ _ => rfl, hK _ ?_⟩ | refine hK _ ?_
          clear hK K
          refine wpQuiet_step (fun K hK => ?_)
          go_simp
          refine ⟨.int .u64 (1 : Nat), fun W hW => ?_, hK _ ?_⟩
          · exact (bit_nat ha k 1 hlt (by first | exact HX.out | rfl) W).mono fun e w2 ⟨he, hb⟩ => ⟨he, H2.step hb hW⟩
          clear hK K
          refine wpQuiet_step (fun K hK => ?_)
          go_simp
          refine ⟨A b, fun W hW => ?_, hK _ ?_⟩
          · (obtain ⟨_, ⟨u0, u1, _⟩, v0, v1, _⟩ := hW; simp [go_sem, v0, v1])
          clear hK K
          refine wpQuiet_step (fun K hK => ?_)
          go_simp
          first | refine ⟨_, fun _ _ => rfl, hK _ ?_⟩ | refine hK _ ?_
          clear hK K
          refine wpQuiet_step (fun K hK => ?_)
          go_simp
          refine ⟨.int .u64 (1 : Nat), fun W hW => ?_, hK _ ?_⟩
          · exact (bit_nat hb k 1 hlt (by first | exact HY.out | rfl) W).mono fun e w2 ⟨he, hb⟩ => ⟨he, H2.step hb hW⟩
          clear hK K
          refine wpQuiet_step (fun K hK => ?_)
          go_simp
          first | refine ⟨_, fun _ _ => rfl, hK _ ?_⟩ | refine hK _ ?_
          clear hK K
          refine wpQuiet_nil ?_
          intro wx HF
          go_wp2_with fail
          refine wp_region_quiet (C := H2 w a b) (by kernel_rfl) (by kernel_rfl) (H2.drew HF) ?_
          refine wpQuiet_step (fun K hK => ?_)
          go_simp
          refine ⟨A a, fun W hW => ?_, hK _ ?_⟩
          · (obtain ⟨_, ⟨u0, u1, _⟩, v0, v1, _⟩ := hW; simp [go_sem, u0, u1])
          clear hK K
          refine wpQuiet_step (fun K hK => ?_)
          go_simp
          first | refine ⟨_, fun _ _ => rfl, hK _ ?_⟩ | refine hK _ ?_
          clear hK K
          refine wpQuiet_step (fun K hK => ?_)
          go_simp
          refine ⟨.int .u64 (1 : Nat), fun W hW => ?_, hK _ ?_⟩
          · exact (bit_nat ha k 1 hlt (by first | exact HX.out | rfl) W).mono fun e w2 ⟨he, hb⟩ => ⟨he, H2.step hb hW⟩
          clear hK K
          refine wpQuiet_step (fun K hK => ?_)
          go_simp
          refine ⟨A b, fun W hW => ?_, hK _ ?_⟩
          · (obtain ⟨_, ⟨u0, u1, _⟩, v0, v1, _⟩ := hW; simp [go_sem, v0, v1])
          clear hK K
          refine wpQuiet_step (fun K hK => ?_)
          go_simp
          first | refine ⟨_, fun _ _ => rfl, hK _ ?_⟩ | refine hK _ ?_
          clear hK K
          refine wpQuiet_step (fun K hK => ?_)
          go_simp
          refine ⟨.int .u64 (1 : Nat), fun W hW => ?_, hK _ ?_⟩
          · exact (bit_nat hb k 1 hlt (by first | exact HY.out | rfl) W).mono fun e w2 ⟨he, hb⟩ => ⟨he, H2.step hb hW⟩
          clear hK K
          refine wpQuiet_step (fun K hK => ?_)
          go_simp
          first | refine ⟨_, fun _ _ => rfl, hK _ ?_⟩ | refine hK _ ?_
          clear hK K
          refine wpQuiet_nil ?_
          intro wx HF
          go_wp2
          go_roundw
          case rel => exact ⟨k + 1, by omega, by go_num, hide (cmp_on hlt E.out (by rw [HX.out, HY.out])), HF⟩
          case measure => simp [intOf]; omega
    · have e : k = 128 := by omega
      subst e
      go_wp2
      go_ret
      exact ⟨congrArg Ending.returned (i64_eq (cmpS_eq (cmp_end E.out)).symm), HH.1⟩
/-- one box, the result's place and the number that is made -/
def HC (w : World) (a x : Nat) (W : World) : Prop := H1 w a W ∧ Three (w.heap.size + 1) (.int .u64 0) (.int .u64 0) (.int .i64 0) W ∧ Two (w.heap.size + 1 + 1) x W
theorem HC.step {w : World} {a x : Nat} {W w2 : World} (hb : Below W.heap.size W w2) (h : HC w a x W) : HC w a x w2 := ⟨H1.step hb h.1, h.2.1.step hb, h.2.2.step hb⟩
theorem HC.put {w : World} {a x : Nat} {W : World} (h : HC w a x W) (y : Nat) : HC w a y ((W.setCell ⟨w.heap.size + 1 + 1, 0, none⟩ (.int .u64 (hi y : Nat))).setCell ⟨w.heap.size + 1 + 1, 1, none⟩ (.int .u64 (lo y : Nat))) := by
  obtain ⟨⟨h1, h2⟩, h4, h5⟩ := h
  exact ⟨⟨(h1.setCell (by dsimp only; omega) _).setCell (by dsimp only; omega) _, (h2.set (by dsimp only; omega) _).set (by dsimp only; omega) _⟩, three_set (three_set h4 (by dsimp only; omega) _) (by dsimp only; omega) _, h5.put y⟩
theorem hc_new (w : World) (a : Nat) (t u : TypeId) : HC w a 0 (((w.alloc (.cells #[.int .u64 (hi a : Nat), .int .u64 (lo a : Nat)] t)).alloc (.cells #[.int .u64 0, .int .u64 0, .int .i64 0] u)).alloc (.cells #[.int .u64 0, .int .u64 0] t)) := by
  have h := h1_new w a t
  generalize hv : w.alloc (.cells #[.int .u64 (hi a : Nat), .int .u64 (lo a : Nat)] t) = V at *
  have hs : V.heap.size = w.heap.size + 1 := by rw [← hv]; simp
  have h3 := three_new V (.int .u64 0) (.int .u64 0) (.int .i64 0) u
  have h4 := two_zero (V.alloc (.cells #[.int .u64 0, .int .u64 0, .int .i64 0] u)) t
  rw [hs] at h3
  rw [show (V.alloc (.cells #[.int .u64 0, .int .u64 0, .int .i64 0] u)).heap.size = w.heap.size + 1 + 1 by simp [hs]] at h4
  exact ⟨H1.step (below_alloc _ _) (H1.step (below_alloc _ _) h), h3.step (below_alloc _ _), h4⟩
set_option maxRecDepth 100000 in
set_option maxHeartbeats 1000000 in
theorem rclip_any {a : Nat} (ha : Fits a) (n : Int) (w : World) :
    Calls Try.prog 54 #[A a, .int .i64 n] w (Gives (.tuple #[Pv (clipA a n) (clipN n), .bool (okN n)]) w) := by
  by_cases h0 : n < 0
  · have K := hide (show okN n = false by unfold okN; simp; omega)
    have K1 := hide (show clipA a n = 0 by unfold clipA; rw [K.out]; rfl)
    have K2 := hide (show clipN n = 0 by unfold clipN; rw [K.out]; rfl)
    go_enter Try.func54, Try.ntmps54
    go_wp2
    refine bodyPost_ret (v := .tuple #[Pv (clipA a n) (clipN n), .bool (okN n)]) ?_ rfl ⟨rfl, ((Below.refl _ _).alloc (Nat.le_refl _) _).alloc (by simp) _⟩
    rw [K.out, K1.out, K2.out]
    simp [results, Try.results54, go_sem, hi_zero, lo_zero]
  by_cases h1 : 128 < n
  · have K := hide (show okN n = false by unfold okN; simp; omega)
    have K1 := hide (show clipA a n = 0 by unfold clipA; rw [K.out]; rfl)
    have K2 := hide (show clipN n = 0 by unfold clipN; rw [K.out]; rfl)
    go_enter Try.func54, Try.ntmps54
    go_wp2
    refine bodyPost_ret (v := .tuple #[Pv (clipA a n) (clipN n), .bool (okN n)]) ?_ rfl ⟨rfl, ((Below.refl _ _).alloc (Nat.le_refl _) _).alloc (by simp) _⟩
    rw [K.out, K1.out, K2.out]
    simp [results, Try.results54, go_sem, hi_zero, lo_zero]
  obtain ⟨m, rfl⟩ := Int.eq_ofNat_of_zero_le (by omega : 0 ≤ n)
  have hm : m ≤ 128 := by omega
  have hm2 : (m : Int) ≤ 128 := by omega
  have K := hide (show okN (m : Int) = true by unfold okN; simp; omega)
  have K1 := hide (show clipA a (m : Int) = clipS a m by unfold clipA; rw [K.out]; rfl)
  have K2 := hide (show clipN (m : Int) = m by unfold clipN; rw [K.out]; rfl)
  clear h0 h1
  go_enter Try.func54, Try.ntmps54
  go_wp2_with fail
  go_loopw [7] (fun i wr => ∃ k x : Nat, k ≤ m ∧ i = .int .i64 k ∧ Hid (x = clipS a k) ∧ HC w a x wr) (fun i _ => m - (intOf i).toNat)
  case atStart => exact ⟨0, 0, by omega, rfl, hide (clip_none ha).symm, hc_new w a _ _⟩
  case round =>
    obtain ⟨k, x, hk, rfl, E, HH⟩ := hrel
    obtain ⟨⟨HB, a0, a1, a2, a3, a4⟩, ⟨c0, c1, c2, c3, c4, c5, c6⟩, d0, d1, d2, d3, d4⟩ := id HH
    have HX := hide (show Fits x by rw [E.out]; exact fits_clipS ha _)
    by_cases hlt : k < m
    · have b1 := bitS_lt a k
      have hx : bitS a k = 0 ∨ bitS a k = 1 := by omega
      clear b1
      rcases hx with hx | hx
      · have A1 := hide hx
        clear hx
        go_wp2_with fail
        refine (bit_nat ha k 0 (by omega) A1.out _).mono ?_
        rintro e w2 ⟨rfl, hb2⟩
        go_wp2
        go_roundw
        case rel => exact ⟨k + 1, x, by omega, by go_num, hide (by rw [E.out]; exact (clip_skip (by omega) (by rw [A1.out]; omega)).symm), HC.step hb2 HH⟩
        case measure => simp [intOf]; omega
      · have A1 := hide hx
        clear hx
        go_wp2_with fail
        refine (bit_nat ha k 1 (by omega) A1.out _).mono ?_
        rintro e w2 ⟨rfl, hb2⟩
        clear HB a0 a1 a2 a3 a4 c0 c1 c2 c3 c4 c5 c6 d0 d1 d2 d3 d4
        have HF := HC.step hb2 HH
        obtain ⟨⟨HB, a0, a1, a2, a3, a4⟩, ⟨c0, c1, c2, c3, c4, c5, c6⟩, d0, d1, d2, d3, d4⟩ := id HF
        go_wp2_with fail
        refine (with_nat HX.out k (by omega) _).mono ?_
        rintro e w3 ⟨rfl, hb3⟩
        clear HB a0 a1 a2 a3 a4 c0 c1 c2 c3 c4 c5 c6 d0 d1 d2 d3 d4
        have HG := HC.step hb3 HF
        obtain ⟨⟨HB, a0, a1, a2, a3, a4⟩, ⟨c0, c1, c2, c3, c4, c5, c6⟩, d0, d1, d2, d3, d4⟩ := id HG
        go_wp2
        go_roundw
        case rel => exact ⟨k + 1, _, by omega, by go_num, hide (by rw [E.out]; exact clip_set (by omega) A1.out), HG.put _⟩
        case measure => simp [intOf]; omega
    · have e : k = m := by omega
      subst e
      have hx : x = clipS a k := E.out
      subst hx
      clear E
      go_wp2
      refine bodyPost_ret (v := .tuple #[Pv (clipA a (k : Int)) (clipN (k : Int)), .bool (okN (k : Int))]) ?_ rfl ⟨rfl, ((HB.setCell (by simp) _).setCell (by simp) _).setCell (by simp) _⟩
      rw [K.out, K1.out, K2.out]
      simp [results, Try.results54, go_sem, c0, c1, c2]
theorem words_of {p : Nat} {n : Int} {a : Nat} : hasS p n a = (okN n && (decide (hi (clipA a n) = hi p) && decide (lo (clipA a n) = lo p))) := has_words p n a
set_option maxHeartbeats 400000 in
theorem rsound_any {p : Nat} (hp : Fits p) (n : Int) (w : World) :
    Calls Try.prog 26 #[Pv p n] w (Gives (.bool (soundS p n)) w) := by
  have fin : ∀ w' : World, Below w.heap.size w w' → ∀ b : Bool, b = soundS p n → Gives (.bool (soundS p n)) w (.returned (.bool b)) w' := fun w' h b e => ⟨by rw [e], h⟩
  by_cases ho : okN n = true
  · have hn := clipN_ok ho
    have F := hide (fin)
    clear fin
    go_enter Try.func26, Try.ntmps26
    go_wp2_with fail
    refine (rclip_any hp n _).mono ?_
    rintro e w' ⟨rfl, hb⟩
    obtain ⟨hc, hf⟩ := bcell hb
    have hz0 : w.heap.size < w'.heap.size := by have := hb.size; simp at this; omega
    go_wp2
    all_goals go_ret
    all_goals refine F.out _ ((((Below.refl _ _).alloc (Nat.le_refl _) _).trans (hb.mono (by simp))).alloc (by omega) _) _ ?_
    all_goals (unfold soundS; rw [has_words]; simp [*]; try omega)
  · have hq : soundS p n = false := by unfold soundS hasS; simp [ho]
    have F := hide (fin)
    have Q := hide hq
    have ho : okN n = false := by simpa using ho
    clear fin hq
    go_enter Try.func26, Try.ntmps26
    go_wp2_with fail
    refine (rclip_any hp n _).mono ?_
    rintro e w' ⟨rfl, hb⟩
    obtain ⟨hc, hf⟩ := bcell hb
    have hz0 : w.heap.size < w'.heap.size := by have := hb.size; simp at this; omega
    go_wp2
    go_ret
    exact F.out _ ((((Below.refl _ _).alloc (Nat.le_refl _) _).trans (hb.mono (by simp))).alloc (by omega) _) _ Q.out.symm
theorem has_sound {p : Nat} {n : Int} {a : Nat} (h : hasS p n a = true) : soundS p n = true := by
  obtain ⟨h1, h2⟩ := has_iff.1 h
  exact sound_iff.2 ⟨h1, by rw [← h2]; exact clip_again⟩
theorem has_no {p : Nat} {n : Int} {a : Nat} (h : soundS p n = false) : hasS p n a = false := by
  cases e : hasS p n a with
  | false => rfl
  | true => rw [has_sound e] at h; cases h
set_option maxHeartbeats 400000 in
theorem rhas_any {p a : Nat} (hp : Fits p) (ha : Fits a) (n : Int) (w : World) :
    Calls Try.prog 55 #[Pv p n, A a] w (Gives (.bool (hasS p n a)) w) := by
  have fin : ∀ w' : World, Below w.heap.size w w' → ∀ b : Bool, b = hasS p n a → Gives (.bool (hasS p n a)) w (.returned (.bool b)) w' := fun w' h b e => ⟨by rw [e], h⟩
  have F := hide (fin)
  clear fin
  cases hs : soundS p n
  · have Q := hide (has_no (a := a) hs)
    go_enter Try.func55, Try.ntmps55
    go_wp2_with fail
    refine (rclip_any ha n _).mono ?_
    rintro e w' ⟨rfl, hb⟩
    obtain ⟨hc, hf⟩ := bcell hb
    have hz : w.heap.size + 1 < w'.heap.size := by have := hb.size; simp at this; omega
    have hz0 : w.heap.size < w'.heap.size := by omega
    go_wp2_with fail
    refine (rsound_any hp n _).mono ?_
    rintro e w2 ⟨rfl, hb2⟩
    go_wp2
    go_ret
    exact F.out _ (((((Below.refl _ _).alloc (Nat.le_refl _) _).alloc (by simp) _).trans (hb.mono (by simp; omega))).alloc (by omega) _ |>.trans (hb2.mono (by simp; omega))) _ Q.out.symm
  · have hok : okN n = true := okN_iff.2 (sound_iff.1 hs).1
    have hn := clipN_ok hok
    go_enter Try.func55, Try.ntmps55
    go_wp2_with fail
    refine (rclip_any ha n _).mono ?_
    rintro e w' ⟨rfl, hb⟩
    obtain ⟨hc, hf⟩ := bcell hb
    have hz : w.heap.size + 1 < w'.heap.size := by have := hb.size; simp at this; omega
    have hz0 : w.heap.size < w'.heap.size := by omega
    go_wp2_with fail
    refine (rsound_any hp n _).mono ?_
    rintro e w2 ⟨rfl, hb2⟩
    obtain ⟨hc2, hf2⟩ := bcell hb2
    have hy2 := hb2.size
    simp at hy2
    have hy : w.heap.size + 1 < w2.heap.size := by omega
    have hy0 : w.heap.size < w2.heap.size := by omega
    have hy1 : w'.heap.size < w2.heap.size := by omega
    go_wp2
    all_goals go_ret
    all_goals refine F.out _ (((((Below.refl _ _).alloc (Nat.le_refl _) _).alloc (by simp) _).trans (hb.mono (by simp; omega))).alloc (by omega) _ |>.trans (hb2.mono (by simp; omega))) _ ?_
    all_goals (rw [has_words]; simp [*]; try omega)
set_option maxHeartbeats 400000 in
theorem rcovers_any {p q : Nat} (hp : Fits p) (hq : Fits q) (n m : Int) (w : World) :
    Calls Try.prog 27 #[Pv p n, Pv q m] w (Gives (.bool (coversS p n q m)) w) := by
  have fin : ∀ (w' : World) (b : Bool), Below w.heap.size w w' → b = coversS p n q m → Gives (.bool (coversS p n q m)) w (.returned (.bool b)) w' := fun w' b h e => ⟨by rw [e], h⟩
  have F := hide (fin)
  clear fin
  go_enter Try.func27, Try.ntmps27
  go_wp2_with fail
  refine (rsound_any hq m _).mono ?_
  rintro e w' ⟨rfl, hb⟩
  obtain ⟨hc, hf⟩ := bcell hb
  have hz : w.heap.size + 1 < w'.heap.size := by have := hb.size; simp at this; omega
  have hz0 : w.heap.size < w'.heap.size := by omega
  go_wp2_with (go_at_call 55; refine (rhas_any (p := p) hp hq n _).mono ?_; rintro e w2 ⟨rfl, hb2⟩)
  all_goals go_ret
  all_goals refine F.out _ _ ?_ ?_
  all_goals first
    | exact ((((Below.refl _ _).alloc (Nat.le_refl _) _).alloc (by simp) _).trans (hb.mono (by simp; omega))).trans (hb2.mono (by omega))
    | exact (((Below.refl _ _).alloc (Nat.le_refl _) _).alloc (by simp) _).trans (hb.mono (by simp; omega))
    | (unfold coversS; simp [*]; done)
    | (unfold coversS; simp [*]; omega)
set_option maxHeartbeats 400000 in
theorem rmeets_any {p q : Nat} (hp : Fits p) (hq : Fits q) (n m : Int) (w : World) :
    Calls Try.prog 29 #[Pv p n, Pv q m] w (Gives (.bool (meetsS p n q m)) w) := by
  have fin : ∀ (w' : World) (b : Bool), Below w.heap.size w w' → b = meetsS p n q m → Gives (.bool (meetsS p n q m)) w (.returned (.bool b)) w' := fun w' b h e => ⟨by rw [e], h⟩
  have F := hide (fin)
  clear fin
  go_enter Try.func29, Try.ntmps29
  go_wp2_with fail
  refine (rcovers_any hp hq n m _).mono ?_
  rintro e w' ⟨rfl, hb⟩
  obtain ⟨hc, hf⟩ := bcell hb
  have hz : w.heap.size + 1 < w'.heap.size := by have := hb.size; simp at this; omega
  have hz0 : w.heap.size < w'.heap.size := by omega
  go_wp2_with (go_at_call 27; refine (rcovers_any hq hp m n _).mono ?_; rintro e w2 ⟨rfl, hb2⟩)
  all_goals go_ret
  all_goals refine F.out _ _ ?_ ?_
  all_goals first
    | exact ((((Below.refl _ _).alloc (Nat.le_refl _) _).alloc (by simp) _).trans (hb.mono (by simp; omega))).trans (hb2.mono (by omega))
    | exact (((Below.refl _ _).alloc (Nat.le_refl _) _).alloc (by simp) _).trans (hb.mono (by simp; omega))
    | (unfold meetsS; simp [*]; done)
    | (unfold meetsS; simp [*]; omega)
theorem with_half {p n : Nat} (h : clipS p n = p) (hn : n < 128) : withS p n = p + 2 ^ (127 - n) := by
  have b := bit_clip p n hn
  rw [h] at b
  unfold withS
  rw [b, if_neg (by omega)]
/-- three cells that may be written -/
def Free3 (g : Nat) (W : World) : Prop := (W.frozen? ⟨g, 0, none⟩ = false ∧ W.frozen? ⟨g, 1, none⟩ = false ∧ W.frozen? ⟨g, 2, none⟩ = false) ∧ (∃ x y z, W.cell? ⟨g, 0, none⟩ = some x ∧ W.cell? ⟨g, 1, none⟩ = some y ∧ W.cell? ⟨g, 2, none⟩ = some z) ∧ g < W.heap.size
theorem Three.free {g : Nat} {x y z : Value} {W : World} (h : Three g x y z W) : Free3 g W := by
  obtain ⟨a, b, c, d, e, f, l⟩ := h
  exact ⟨⟨d, e, f⟩, ⟨x, y, z, a, b, c⟩, l⟩
theorem Free3.step {g : Nat} {W w2 : World} (h : Free3 g W) (hb : Below W.heap.size W w2) : Free3 g w2 := by
  obtain ⟨⟨d, e, f⟩, ⟨x, y, z, a, b, c⟩, l⟩ := h
  have s := hb.size
  exact ⟨⟨free_keep hb l d, free_keep hb l e, free_keep hb l f⟩, ⟨x, y, z, cell_keep hb a, cell_keep hb b, cell_keep hb c⟩, by omega⟩
/-- the blocks of the call: the prefix, the two results' places -/
def HR (w : World) (p : Nat) (n : Int) (W : World) : Prop := Below w.heap.size w W ∧
  Three w.heap.size (.int .u64 (hi p : Nat)) (.int .u64 (lo p : Nat)) (.int .i64 n) W ∧ Three (w.heap.size + 1) (.int .u64 0) (.int .u64 0) (.int .i64 0) W ∧ Three (w.heap.size + 1 + 1) (.int .u64 0) (.int .u64 0) (.int .i64 0) W
theorem HR.step {w : World} {p : Nat} {n : Int} {W w2 : World} (hb : Below W.heap.size W w2) (h : HR w p n W) : HR w p n w2 := ⟨h.1.trans (hb.mono h.1.size), h.2.1.step hb, h.2.2.1.step hb, h.2.2.2.step hb⟩
theorem HR.drew {w : World} {p : Nat} {n : Int} {W : World} (h : HR w p n W) : HR w p n W.drew := HR.step (below_drew W) h
theorem hr_new (w : World) (p : Nat) (n : Int) (t : TypeId) : HR w p n (((w.alloc (.cells #[.int .u64 (hi p : Nat), .int .u64 (lo p : Nat), .int .i64 n] t)).alloc (.cells #[.int .u64 0, .int .u64 0, .int .i64 0] t)).alloc (.cells #[.int .u64 0, .int .u64 0, .int .i64 0] t)) := by
  refine ⟨((below_alloc w _).alloc (by simp) _).alloc (by simp; omega) _, ((three_new w _ _ _ t).step (below_alloc _ _)).step (below_alloc _ _), ?_, ?_⟩
  · have := (three_new (w.alloc (.cells #[.int .u64 (hi p : Nat), .int .u64 (lo p : Nat), .int .i64 n] t)) (.int .u64 0) (.int .u64 0) (.int .i64 0) t).step (below_alloc _ (.cells #[.int .u64 0, .int .u64 0, .int .i64 0] t))
    simpa using this
  · have := three_new ((w.alloc (.cells #[.int .u64 (hi p : Nat), .int .u64 (lo p : Nat), .int .i64 n] t)).alloc (.cells #[.int .u64 0, .int .u64 0, .int .i64 0] t)) (.int .u64 0) (.int .u64 0) (.int .i64 0) t
    simpa using this
/-- what every order of the last statement keeps -/
def HQ (w : World) (p : Nat) (n : Int) (W : World) : Prop := Below w.heap.size w W ∧
  Three w.heap.size (.int .u64 (hi p : Nat)) (.int .u64 (lo p : Nat)) (.int .i64 n) W
theorem HR.hq {w : World} {p : Nat} {n : Int} {W : World} (h : HR w p n W) : HQ w p n W := ⟨h.1, h.2.1⟩
theorem HQ.set {w : World} {p : Nat} {n : Int} {W : World} (h : HQ w p n W) {q : Addr} (hq : w.heap.size < q.block) (u : Value) : HQ w p n (W.setCell q u) :=
  ⟨h.1.setCell (by omega) u, three_set h.2 (by omega) u⟩
theorem hq_all {w : World} {p : Nat} {n : Int} {W : World} (h : HQ w p n W) : HQ w p n W ∧ W.cell? ⟨w.heap.size, 0, none⟩ = some (.int .u64 (hi p : Nat)) ∧
    W.cell? ⟨w.heap.size, 1, none⟩ = some (.int .u64 (lo p : Nat)) ∧ W.cell? ⟨w.heap.size, 2, none⟩ = some (.int .i64 n) := by
  have h' := h
  obtain ⟨_, c0, c1, c2, _⟩ := h'
  exact ⟨h, c0, c1, c2⟩

set_option maxHeartbeats 2000000 in
theorem rhalves_yes {p : Nat} (hp : Fits p) (n : Int) (hs : soundS p n = true) (h1 : n ≠ 128) (w : World) :
    Calls Try.prog 58 #[Pv p n] w (Gives (.tuple #[Pv (lowA p n) (halfN p n), Pv (highA p n) (halfN p n), .bool (halfOk p n)]) w) := by
  have hne : (n == 128) = false := by simpa using h1
  have ⟨⟨hn0, hn1⟩, hc0⟩ := sound_iff.1 hs
  have hn2 : n < 128 := by omega
  have ho : halfOk p n = true := by unfold halfOk; rw [hs, hne]; rfl
  have Q0 := hide ho
  have Q1 := hide (show lowA p n = p by unfold lowA; rw [if_pos ho])
  have Q2 := hide (show halfN p n = n + 1 by unfold halfN; rw [if_pos ho])
  have Q3 := hide (show highA p n = withS p n.toNat by unfold highA; rw [if_pos ho]; exact (with_half hc0 (by omega)).symm)
  have WC := hide (with_any hp n hn0 hn2)
  generalize withS p n.toNat = x at Q3 WC
  have HW := hide (show IntKind.i64.wrap (n + 1) = n + 1 from IntWalk.i64_in _ ⟨by omega, by omega⟩)
  clear hc0 ho
  go_enter Try.func58, Try.ntmps58
  go_wp2_with fail
  refine (rsound_any hp n _).mono ?_
  rintro e w1 ⟨rfl, hb1⟩
  have HH := HR.step hb1 (hr_new w p n _)
  clear hb1
  obtain ⟨HB, ⟨a0, a1, a2, a3, a4, a5, a6⟩, ⟨b0, b1, b2, b3, b4, b5, b6⟩, ⟨c0, c1, c2, c3, c4, c5, c6⟩⟩ := id HH
  go_wp2_with fail
  go_region_held3 (fun W => HQ w p n W ∧ W.cell? ⟨w.heap.size, 0, none⟩ = some (.int .u64 (hi p : Nat)) ∧ W.cell? ⟨w.heap.size, 1, none⟩ = some (.int .u64 (lo p : Nat)) ∧ W.cell? ⟨w.heap.size, 2, none⟩ = some (.int .i64 n))
    (first
      | (refine hq_all ?_; with_reducible exact HH.drew.hq)
      | (refine hq_all ?_; with_reducible exact (HR.step hb2 HH.drew).hq)
      | (refine hq_all ?_; (repeat (with_reducible refine HQ.set ?_ ?_ _)); (with_reducible exact (HR.step hb2 HH.drew).hq); all_goals (dsimp only; omega)))
    (first
      | (go_at_call 70; refine (WC.out _).mono ?_; rintro e w2 ⟨rfl, hb2⟩; (refine both (HR.step hb2 HH.drew) ?_; rintro ⟨HB', ⟨r0, r1, r2, r3, r4, r5, r6⟩, ⟨s0, s1, s2, s3, s4, s5, s6⟩, ⟨t0, t1, t2, t3, t4, t5, t6⟩⟩)))
  all_goals
    rename_i hF
    clear hF
    rw [HW.out]
    go_wp2
    refine bodyPost_ret (v := .tuple #[Pv (lowA p n) (halfN p n), Pv (highA p n) (halfN p n), .bool (halfOk p n)]) ?_ rfl ⟨rfl, ?_⟩
    · rw [Q0.out, Q1.out, Q2.out, Q3.out]
      simp [results, Try.results58, go_sem, *]
    · repeat' (first | (with_reducible exact HB') | (with_reducible apply Below.drew) | (with_reducible apply Below.alloc) | (with_reducible apply Below.setCell))
      all_goals first | omega | (dsimp only; omega) | (simp; omega)

set_option maxHeartbeats 1000000 in
theorem rhalves_no {p : Nat} (hp : Fits p) (n : Int) (hs : soundS p n = false ∨ n = 128) (w : World) :
    Calls Try.prog 58 #[Pv p n] w (Gives (.tuple #[Pv (lowA p n) (halfN p n), Pv (highA p n) (halfN p n), .bool (halfOk p n)]) w) := by
  have ho : halfOk p n = false := by
    unfold halfOk
    rcases hs with h | h
    · rw [h]; rfl
    · rw [h]; simp
  have Q0 := hide ho
  have Q1 := hide (show lowA p n = 0 by unfold lowA; rw [if_neg (by simp [ho])])
  have Q2 := hide (show halfN p n = 0 by unfold halfN; rw [if_neg (by simp [ho])])
  have Q3 := hide (show highA p n = 0 by unfold highA; rw [if_neg (by simp [ho])])
  clear ho
  cases hb0 : soundS p n
  · go_enter Try.func58, Try.ntmps58
    go_wp2_with fail
    refine (rsound_any hp n _).mono ?_
    rintro e w' ⟨rfl, hb⟩
    obtain ⟨hc, hf⟩ := bcell hb
    have hz := hb.size
    simp at hz
    have hz0 : w.heap.size < w'.heap.size := by omega
    have hz1 : w.heap.size + 1 < w'.heap.size := by omega
    have hz2 : w.heap.size + 1 + 1 < w'.heap.size := by omega
    go_wp2_with fail
    refine bodyPost_ret (v := .tuple #[Pv (lowA p n) (halfN p n), Pv (highA p n) (halfN p n), .bool (halfOk p n)]) ?_ rfl ⟨rfl, ?_⟩
    · rw [Q0.out, Q1.out, Q2.out, Q3.out]
      simp [results, Try.results58, go_sem, hc, hi_zero, lo_zero]
    · have HB := (((Below.refl w.heap.size w).alloc (Nat.le_refl _) (.cells #[.int .u64 (hi p : Nat), .int .u64 (lo p : Nat), .int .i64 n] 26)).alloc (by simp) (.cells #[.int .u64 0, .int .u64 0, .int .i64 0] 26)).alloc (by simp; omega) (.cells #[.int .u64 0, .int .u64 0, .int .i64 0] 26) |>.trans (hb.mono (by simp; omega))
      repeat' (first | (with_reducible exact HB) | (with_reducible apply Below.drew) | (with_reducible apply Below.alloc) | (with_reducible apply Below.setCell))
      all_goals first | omega | (dsimp only; omega) | (simp; omega)
  · have hn : n = 128 := by
      rcases hs with h | h
      · rw [hb0] at h; cases h
      · exact h
    have hne : (n == 128) = true := by simpa using hn
    clear hs hn
    go_enter Try.func58, Try.ntmps58
    go_wp2_with fail
    refine (rsound_any hp n _).mono ?_
    rintro e w' ⟨rfl, hb⟩
    obtain ⟨hc, hf⟩ := bcell hb
    have hz := hb.size
    simp at hz
    have hz0 : w.heap.size < w'.heap.size := by omega
    have hz1 : w.heap.size + 1 < w'.heap.size := by omega
    have hz2 : w.heap.size + 1 + 1 < w'.heap.size := by omega
    go_wp2_with fail
    refine bodyPost_ret (v := .tuple #[Pv (lowA p n) (halfN p n), Pv (highA p n) (halfN p n), .bool (halfOk p n)]) ?_ rfl ⟨rfl, ?_⟩
    · rw [Q0.out, Q1.out, Q2.out, Q3.out]
      simp [results, Try.results58, go_sem, hc, hi_zero, lo_zero]
    · have HB := (((Below.refl w.heap.size w).alloc (Nat.le_refl _) (.cells #[.int .u64 (hi p : Nat), .int .u64 (lo p : Nat), .int .i64 n] 26)).alloc (by simp) (.cells #[.int .u64 0, .int .u64 0, .int .i64 0] 26)).alloc (by simp; omega) (.cells #[.int .u64 0, .int .u64 0, .int .i64 0] 26) |>.trans (hb.mono (by simp; omega))
      repeat' (first | (with_reducible exact HB) | (with_reducible apply Below.drew) | (with_reducible apply Below.alloc) | (with_reducible apply Below.setCell))
      all_goals first | omega | (dsimp only; omega) | (simp; omega)

theorem rhalves_any {p : Nat} (hp : Fits p) (n : Int) (w : World) :
    Calls Try.prog 58 #[Pv p n] w (Gives (.tuple #[Pv (lowA p n) (halfN p n), Pv (highA p n) (halfN p n), .bool (halfOk p n)]) w) := by
  by_cases h : soundS p n = true ∧ n ≠ 128
  · exact rhalves_yes hp n h.1 h.2 w
  · refine rhalves_no hp n ?_ w
    by_cases k : n = 128
    · exact Or.inr k
    · left
      cases e : soundS p n
      · rfl
      · exact absurd ⟨e, k⟩ h
end Go.Proofs.Ytpieddddckbfdaa
