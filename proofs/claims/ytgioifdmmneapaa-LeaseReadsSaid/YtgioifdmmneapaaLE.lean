/-
  A change as bytes: the contract of lease.encode at every change, and what these bytes are. Conditions: the change is one; the words are words of 64 bits.
-/
import Derived.Test.YtgioifdmmneapaaLC
import Derived.Test.YtgioifdmmneapaaLOct
import Derived.Test.YtgioifdmmneapaaLRel
namespace Go.Proofs.Ytgioifdmmneapaa
open Go.RowKit Go.Joins

/-- the bytes of a change -/
def headB (c : Ch) : List UInt8 := [UInt8.ofNat c.l.kind.toNat, UInt8.ofNat c.l.n.toNat] ++ beL 16 c.l.p
def restB (x : Ls) : List UInt8 := [UInt8.ofNat x.st.toNat] ++ beL 4 x.ia ++ beL 8 x.un.toNat ++ (beL 2 x.cl.size ++ x.cl.data.toList)
def encB (c : Ch) : List UInt8 := if c.gone = true then 2 :: headB c else 1 :: (headB c ++ restB c.l)

theorem right_range {k : Int} {p : Nat} {n : Int} (h : rightS k p n = true) : (1 ≤ k ∧ k ≤ 4) ∧ (0 ≤ n ∧ n ≤ 128) := by
  unfold rightS at h
  rw [Bool.and_eq_true] at h
  obtain ⟨h1, h2⟩ := h
  have hn := (sound_iff.1 h1).1
  refine ⟨?_, hn⟩
  split at h2
  · omega
  split at h2
  · omega
  split at h2
  · omega
  · cases h2
theorem lease_range {x : Ls} (h : leaseS x = true) : rightS x.kind x.p x.n = true ∧ (0 ≤ x.un ∧ x.un ≤ 1099511627776) ∧ (1 ≤ x.st ∧ x.st ≤ 2) ∧ x.cl.size ≤ 130 := by
  unfold leaseS at h
  simp only [Bool.and_eq_true, decide_eq_true_eq] at h
  obtain ⟨h1, h2, h3⟩ := h
  refine ⟨h1, h2, ?_⟩
  unfold stateS at h3
  split at h3
  · simp only [decide_eq_true_eq] at h3; omega
  split at h3
  · simp only [decide_eq_true_eq] at h3; omega
  · cases h3
theorem change_right {c : Ch} (h : changeS c = true) : rightS c.l.kind c.l.p c.l.n = true := by
  unfold changeS at h
  split at h
  · exact (Bool.and_eq_true _ _ ▸ h).1
  · exact (lease_range h).1

theorem conv1 (b : UInt8) (W : World) : (convert 64 9 (.slice (some ⟨W.heap.size, 0, none⟩) 1 1)).run Try.prog (W.alloc (.cells #[.int .u8 (b.toNat : Int)] 5)) = .ok (St [b]) (W.alloc (.cells #[.int .u8 (b.toNat : Int)] 5)) :=
  conv_own (l := [b]) (World.ownsRow_lit (base := W.heap.size) (e := 5) (size := 1) W #[.int .u8 (b.toNat : Int)] 1 (Nat.le_refl _) (by unfold maxLen; omega) rfl)
theorem conv2 (b d : UInt8) (W : World) : (convert 64 9 (.slice (some ⟨W.heap.size, 0, none⟩) 2 2)).run Try.prog (W.alloc (.cells #[.int .u8 (b.toNat : Int), .int .u8 (d.toNat : Int)] 5)) = .ok (St [b, d]) (W.alloc (.cells #[.int .u8 (b.toNat : Int), .int .u8 (d.toNat : Int)] 5)) :=
  conv_own (l := [b, d]) (World.ownsRow_lit (base := W.heap.size) (e := 5) (size := 1) W #[.int .u8 (b.toNat : Int), .int .u8 (d.toNat : Int)] 2 (Nat.le_refl _) (by unfold maxLen; omega) rfl)

theorem conv_at {w : World} {g : Nat} (l : List UInt8) (cap : Nat) (h : ∀ (j : Nat) (b : UInt8), l[j]? = some b → w.cell? ⟨g, j, none⟩ = some (.int .u8 (b.toNat : Int))) :
    (convert 64 9 (.slice (some ⟨g, 0, none⟩) l.length cap)).run Try.prog w = .ok (St l) w := by
  refine run_convert_bytes_back (P := Try.prog) w 64 9 5 ⟨g, 0, none⟩ cap l Try.underlying64 Try.underlying5 Try.underlying9 (fun j hj => ?_)
  have := h j _ (List.getElem?_eq_getElem hj)
  have ha : (⟨g, 0, none⟩ : Go.Addr).add j = ⟨g, j, none⟩ := by cases j <;> simp [Addr.add]
  rw [ha, this]
theorem conv1k {b : UInt8} {V W w2 : World} (hW : W = V.alloc (.cells #[.int .u8 (b.toNat : Int)] 5) ∨ W = (V.alloc (.cells #[.int .u8 (b.toNat : Int)] 5)).drew) (hb : Below W.heap.size W w2) :
    (convert 64 9 (.slice (some ⟨V.heap.size, 0, none⟩) 1 1)).run Try.prog w2 = .ok (St [b]) w2 := by
  refine conv_at [b] 1 (fun j u hj => keep_cell hb ?_)
  match j, hj with
  | 0, hj => simp at hj; subst hj; rcases hW with rfl | rfl <;> simp [go_sem]
theorem conv2k {b d : UInt8} {V W w2 : World} (hW : W = V.alloc (.cells #[.int .u8 (b.toNat : Int), .int .u8 (d.toNat : Int)] 5) ∨ W = (V.alloc (.cells #[.int .u8 (b.toNat : Int), .int .u8 (d.toNat : Int)] 5)).drew) (hb : Below W.heap.size W w2) :
    (convert 64 9 (.slice (some ⟨V.heap.size, 0, none⟩) 2 2)).run Try.prog w2 = .ok (St [b, d]) w2 := by
  refine conv_at [b, d] 2 (fun j u hj => keep_cell hb ?_)
  match j, hj with
  | 0, hj => simp at hj; subst hj; rcases hW with rfl | rfl <;> simp [go_sem]
  | 1, hj => simp at hj; subst hj; rcases hW with rfl | rfl <;> simp [go_sem]
theorem conv1d (b : UInt8) (W : World) : (convert 64 9 (.slice (some ⟨W.heap.size, 0, none⟩) 1 1)).run Try.prog (W.alloc (.cells #[.int .u8 (b.toNat : Int)] 5)).drew = .ok (St [b]) (W.alloc (.cells #[.int .u8 (b.toNat : Int)] 5)).drew :=
  conv_own (l := [b]) (World.ownsRow_lit (base := W.heap.size) (e := 5) (size := 1) W #[.int .u8 (b.toNat : Int)] 1 (Nat.le_refl _) (by unfold maxLen; omega) rfl).drew
theorem conv2d (b d : UInt8) (W : World) : (convert 64 9 (.slice (some ⟨W.heap.size, 0, none⟩) 2 2)).run Try.prog (W.alloc (.cells #[.int .u8 (b.toNat : Int), .int .u8 (d.toNat : Int)] 5)).drew = .ok (St [b, d]) (W.alloc (.cells #[.int .u8 (b.toNat : Int), .int .u8 (d.toNat : Int)] 5)).drew :=
  conv_own (l := [b, d]) (World.ownsRow_lit (base := W.heap.size) (e := 5) (size := 1) W #[.int .u8 (b.toNat : Int), .int .u8 (d.toNat : Int)] 2 (Nat.le_refl _) (by unfold maxLen; omega) rfl).drew

/-- the boxes of a change and of its lease -/
def EB (w : World) (c : Ch) (W : World) : Prop := Below w.heap.size w W ∧ W.cell? ⟨w.heap.size, 0, none⟩ = some (.bool c.gone) ∧
  W.cell? ⟨w.heap.size + 1, 0, none⟩ = some (.int .i64 c.l.kind) ∧ W.cell? ⟨w.heap.size + 1, 1, none⟩ = some (.int .u64 (hi c.l.p : Nat)) ∧ W.cell? ⟨w.heap.size + 1, 2, none⟩ = some (.int .u64 (lo c.l.p : Nat)) ∧
  W.cell? ⟨w.heap.size + 1, 3, none⟩ = some (.int .i64 c.l.n) ∧ W.cell? ⟨w.heap.size + 1, 4, none⟩ = some (.int .i64 c.l.st) ∧ W.cell? ⟨w.heap.size + 1, 5, none⟩ = some (.string c.l.cl) ∧
  W.cell? ⟨w.heap.size + 1, 6, none⟩ = some (.int .u32 (c.l.ia : Int)) ∧ W.cell? ⟨w.heap.size + 1, 7, none⟩ = some (.int .i64 c.l.un)
theorem EB.step {w : World} {c : Ch} {W w2 : World} (h : EB w c W) (hb : Below W.heap.size W w2) : EB w c w2 := by
  obtain ⟨h0, h1, h2, h3, h4, h5, h6, h7, h8, h9⟩ := h
  exact ⟨h0.trans (hb.mono h0.size), keep_cell hb h1, keep_cell hb h2, keep_cell hb h3, keep_cell hb h4, keep_cell hb h5, keep_cell hb h6, keep_cell hb h7, keep_cell hb h8, keep_cell hb h9⟩
theorem eb_new (w : World) (c : Ch) (t u : TypeId) : EB w c ((w.alloc (.cells #[.bool c.gone, .int .i64 c.l.kind, .int .u64 (hi c.l.p : Nat), .int .u64 (lo c.l.p : Nat), .int .i64 c.l.n, .int .i64 c.l.st, .string c.l.cl, .int .u32 (c.l.ia : Int), .int .i64 c.l.un] t)).alloc (.cells #[.int .i64 c.l.kind, .int .u64 (hi c.l.p : Nat), .int .u64 (lo c.l.p : Nat), .int .i64 c.l.n, .int .i64 c.l.st, .string c.l.cl, .int .u32 (c.l.ia : Int), .int .i64 c.l.un] u)) := by
  refine ⟨(below_alloc _ _).trans ((below_alloc _ _).mono (by simp)), ?_, ?_, ?_, ?_, ?_, ?_, ?_, ?_, ?_⟩ <;> simp [go_sem]

theorem byte_wrap {x : Int} (h0 : 0 ≤ x) (h1 : x < 256) : IntKind.u8.wrap x = ((UInt8.ofNat x.toNat).toNat : Int) := by
  rw [IntKind.wrap_u8]
  have : (UInt8.ofNat x.toNat).toNat = x.toNat % 256 := UInt8.toNat_ofNat'
  rw [this]; omega

set_option maxRecDepth 100000 in
set_option maxHeartbeats 4000000 in
theorem encode_any (c : Ch) (hc : c.l.ok) (h : changeS c = true) (w : World) :
    Calls Try.prog 38 #[Cv c] w (Gives (St (encB c)) w) := by
  have hr := right_range (change_right h)
  have B1 := byte_wrap (x := c.l.kind) (by omega) (by omega)
  have B2 := byte_wrap (x := c.l.n) (by omega) (by omega)
  have B1' : c.l.kind % 256 = ((UInt8.ofNat c.l.kind.toNat).toNat : Int) := by rw [← IntKind.wrap_u8, B1]
  have B2' : c.l.n % 256 = ((UInt8.ofNat c.l.n.toNat).toNat : Int) := by rw [← IntKind.wrap_u8, B2]
  have H := eb_new w c 31 29
  have PA := hide (fun W => putAddr_any hc.p W)
  have E : Hid (encB c = if c.gone = true then 2 :: (([UInt8.ofNat c.l.kind.toNat, UInt8.ofNat c.l.n.toNat] ++ beL 16 c.l.p)) else 1 :: (([UInt8.ofNat c.l.kind.toNat, UInt8.ofNat c.l.n.toNat] ++ beL 16 c.l.p) ++ restB c.l)) := hide rfl
  have L16 := beL_length 16 c.l.p
  generalize UInt8.ofNat c.l.kind.toNat = b1 at *
  generalize UInt8.ofNat c.l.n.toNat = b2 at *
  generalize beL 16 c.l.p = l16 at *
  have N1 : ¬ 9223372036854775807 < 2 + l16.length := by omega
  go_enter Try.func38, Try.ntmps38
  go_wp2_with fail
  generalize (w.alloc (.cells #[.bool c.gone, .int .i64 c.l.kind, .int .u64 (hi c.l.p : Nat), .int .u64 (lo c.l.p : Nat), .int .i64 c.l.n, .int .i64 c.l.st, .string c.l.cl, .int .u32 (c.l.ia : Int), .int .i64 c.l.un] 31)).alloc (.cells #[.int .i64 c.l.kind, .int .u64 (hi c.l.p : Nat), .int .u64 (lo c.l.p : Nat), .int .i64 c.l.n, .int .i64 c.l.st, .string c.l.cl, .int .u32 (c.l.ia : Int), .int .i64 c.l.un] 29) = V at *
  refine wp_region_rel (EB w c) [some 9, some 10, some 11, some 12, some 13, some 14, some 15, some 16, some 17, some 18, some 19, some 20, some 21, some 22, some 4] [fun v _ => v = .pointer (some ⟨w.heap.size + 1, 0, none⟩), fun v _ => v = .int .i64 c.l.kind, fun v _ => v = .int .u8 (b1.toNat : Int), fun v _ => v = .pointer (some ⟨w.heap.size + 1, 1, none⟩), fun v _ => v = .pointer (some ⟨w.heap.size + 1, 3, none⟩), fun v _ => v = .int .i64 c.l.n, fun v _ => v = .int .u8 (b2.toNat : Int), fun v W => ∃ g, v = .slice (some ⟨g, 0, none⟩) 2 2 ∧ W.cell? ⟨g, 0, none⟩ = some (.int .u8 (b1.toNat : Int)) ∧ W.cell? ⟨g, 1, none⟩ = some (.int .u8 (b2.toNat : Int)), fun v _ => v = St [b1, b2], fun v _ => v = .pointer (some ⟨w.heap.size + 1, 1, none⟩), fun v _ => v = .pointer (some ⟨w.heap.size + 1, 1, none⟩), fun v _ => v = A c.l.p, fun v _ => v = St l16, fun v _ => v = St ([b1, b2] ++ l16), fun v _ => v = St ([b1, b2] ++ l16)] 56 (by kernel_rfl) (by kernel_rfl) rfl rfl (H.step (below_drew _)) ?_ ?_
  · refine ⟨⟨fun _ _ _ h _ => h, fun a' W K hC hd hf hK => ?_⟩, ⟨fun _ _ _ h _ => h, fun a' W K hC hd hf hK => ?_⟩, ⟨fun _ _ _ h _ => h, fun a' W K hC hd hf hK => ?_⟩, ⟨fun _ _ _ h _ => h, fun a' W K hC hd hf hK => ?_⟩, ⟨fun _ _ _ h _ => h, fun a' W K hC hd hf hK => ?_⟩, ⟨fun _ _ _ h _ => h, fun a' W K hC hd hf hK => ?_⟩, ⟨fun _ _ _ h _ => h, fun a' W K hC hd hf hK => ?_⟩, ⟨fun _ _ _ ⟨g, h0, h1, h2⟩ hb => ⟨g, h0, keep_cell hb h1, keep_cell hb h2⟩, fun a' W K hC hd hf hK => ?_⟩, ⟨fun _ _ _ h _ => h, fun a' W K hC hd hf hK => ?_⟩, ⟨fun _ _ _ h _ => h, fun a' W K hC hd hf hK => ?_⟩, ⟨fun _ _ _ h _ => h, fun a' W K hC hd hf hK => ?_⟩, ⟨fun _ _ _ h _ => h, fun a' W K hC hd hf hK => ?_⟩, ⟨fun _ _ _ h _ => h, fun a' W K hC hd hf hK => ?_⟩, ⟨fun _ _ _ h _ => h, fun a' W K hC hd hf hK => ?_⟩, ⟨fun _ _ _ h _ => h, fun a' W K hC hd hf hK => ?_⟩, trivial⟩
    · have f3 : a'.tmps[3]?.getD undef = .pointer (some ⟨w.heap.size + 1, 0, none⟩) := (hf.out 3 (by kernel_rfl)).trans (by simp)
      go_simp
      exact hK.out _ _ hC (Below.refl _ _) rfl
    · have d9 : a'.tmps[9]?.getD undef = .pointer (some ⟨w.heap.size + 1, 0, none⟩) := hd.out 0 9 (by kernel_rfl) rfl
      obtain ⟨_, e0, e1, e2, e3, e4, e5, e6, e7, e8⟩ := id hC
      go_simp
      exact hK.out _ _ hC (Below.refl _ _) rfl
    · have d10 : a'.tmps[10]?.getD undef = .int .i64 c.l.kind := hd.out 1 10 (by kernel_rfl) rfl
      go_simp
      exact hK.out _ _ hC (Below.refl _ _) rfl
    · have f3 : a'.tmps[3]?.getD undef = .pointer (some ⟨w.heap.size + 1, 0, none⟩) := (hf.out 3 (by kernel_rfl)).trans (by simp)
      go_simp
      exact hK.out _ _ hC (Below.refl _ _) rfl
    · have d12 : a'.tmps[12]?.getD undef = .pointer (some ⟨w.heap.size + 1, 1, none⟩) := hd.out 3 12 (by kernel_rfl) rfl
      go_simp
      exact hK.out _ _ hC (Below.refl _ _) rfl
    · have d13 : a'.tmps[13]?.getD undef = .pointer (some ⟨w.heap.size + 1, 3, none⟩) := hd.out 4 13 (by kernel_rfl) rfl
      obtain ⟨_, e0, e1, e2, e3, e4, e5, e6, e7, e8⟩ := id hC
      go_simp
      exact hK.out _ _ hC (Below.refl _ _) rfl
    · have d14 : a'.tmps[14]?.getD undef = .int .i64 c.l.n := hd.out 5 14 (by kernel_rfl) rfl
      go_simp
      exact hK.out _ _ hC (Below.refl _ _) rfl
    · have d11 : a'.tmps[11]?.getD undef = .int .u8 (b1.toNat : Int) := hd.out 2 11 (by kernel_rfl) rfl
      have d15 : a'.tmps[15]?.getD undef = .int .u8 (b2.toNat : Int) := hd.out 6 15 (by kernel_rfl) rfl
      go_simp
      exact hK.out _ _ (hC.step (below_alloc _ _)) (below_alloc _ _) ⟨_, rfl, by simp [go_sem], by simp [go_sem]⟩
    · obtain ⟨g16, d16, r16_0, r16_1⟩ := hd.out 7 16 (by kernel_rfl) rfl
      have CV := conv_at (w := W) (g := g16) [b1, b2] 2 (by intro j u hj; match j, hj with | 0, hj => simp at hj; subst hj; exact r16_0 | 1, hj => simp at hj; subst hj; exact r16_1)
      simp only [List.length_cons, List.length_nil, Nat.reduceAdd] at CV
      go_simp
      exact hK.out _ _ hC (Below.refl _ _) rfl
    · have f3 : a'.tmps[3]?.getD undef = .pointer (some ⟨w.heap.size + 1, 0, none⟩) := (hf.out 3 (by kernel_rfl)).trans (by simp)
      go_simp
      exact hK.out _ _ hC (Below.refl _ _) rfl
    · have d18 : a'.tmps[18]?.getD undef = .pointer (some ⟨w.heap.size + 1, 1, none⟩) := hd.out 9 18 (by kernel_rfl) rfl
      go_simp
      exact hK.out _ _ hC (Below.refl _ _) rfl
    · have d19 : a'.tmps[19]?.getD undef = .pointer (some ⟨w.heap.size + 1, 1, none⟩) := hd.out 10 19 (by kernel_rfl) rfl
      obtain ⟨_, e0, e1, e2, e3, e4, e5, e6, e7, e8⟩ := id hC
      go_simp
      exact hK.out _ _ hC (Below.refl _ _) rfl
    · have d20 : a'.tmps[20]?.getD undef = A c.l.p := hd.out 11 20 (by kernel_rfl) rfl
      go_simp; go_at_call 61; refine (PA.out _).mono ?_; rintro e w2 ⟨rfl, hb2⟩; exact hK.out _ _ (hC.step hb2) hb2 rfl
    · have d17 : a'.tmps[17]?.getD undef = St [b1, b2] := hd.out 8 17 (by kernel_rfl) rfl
      have d21 : a'.tmps[21]?.getD undef = St l16 := hd.out 12 21 (by kernel_rfl) rfl
      go_simp
      exact hK.out _ _ hC (Below.refl _ _) (congrArg Value.string (cat2 [b1, b2] l16))
    · have d22 : a'.tmps[22]?.getD undef = St ([b1, b2] ++ l16) := hd.out 13 22 (by kernel_rfl) rfl
      go_simp
      exact hK.out _ _ hC (Below.refl _ _) rfl
  · intro vs W hC hR
    have q0 : vs 0 = .pointer (some ⟨w.heap.size + 1, 0, none⟩) := hR.out 0 (by decide)
    have q1 : vs 1 = .int .i64 c.l.kind := hR.out 1 (by decide)
    have q2 : vs 2 = .int .u8 (b1.toNat : Int) := hR.out 2 (by decide)
    have q3 : vs 3 = .pointer (some ⟨w.heap.size + 1, 1, none⟩) := hR.out 3 (by decide)
    have q4 : vs 4 = .pointer (some ⟨w.heap.size + 1, 3, none⟩) := hR.out 4 (by decide)
    have q5 : vs 5 = .int .i64 c.l.n := hR.out 5 (by decide)
    have q6 : vs 6 = .int .u8 (b2.toNat : Int) := hR.out 6 (by decide)
    obtain ⟨gq7, q7, _, _⟩ := hR.out 7 (by decide)
    have q8 : vs 8 = St [b1, b2] := hR.out 8 (by decide)
    have q9 : vs 9 = .pointer (some ⟨w.heap.size + 1, 1, none⟩) := hR.out 9 (by decide)
    have q10 : vs 10 = .pointer (some ⟨w.heap.size + 1, 1, none⟩) := hR.out 10 (by decide)
    have q11 : vs 11 = A c.l.p := hR.out 11 (by decide)
    have q12 : vs 12 = St l16 := hR.out 12 (by decide)
    have q13 : vs 13 = St ([b1, b2] ++ l16) := hR.out 13 (by decide)
    have q14 : vs 14 = St ([b1, b2] ++ l16) := hR.out 14 (by decide)
    simp only [fillF, Act.put, List.setIfInBounds_toArray, List.set_cons_zero, List.set_cons_succ, Nat.reduceAdd, q0, q1, q2, q3, q4, q5, q6, q7, q8, q9, q10, q11, q12, q13, q14]
    clear hR q0 q1 q2 q3 q4 q5 q6 q7 q8 q9 q10 q11 q12 q13 q14
    have L18 : ([b1, b2] ++ l16).length = 18 := by simp; omega
    generalize hl18 : [b1, b2] ++ l16 = l18 at *
    clear hl18 H hr B1 B2 B1' B2' PA L16 N1
    obtain ⟨_, e0, _⟩ := id hC
    cases hg : c.gone with
    | true =>
      have E2 := hide (show encB c = [2] ++ l18 by rw [E.out, if_pos hg]; rfl)
      have CV : ∀ W : World, (convert 64 9 (.slice (some ⟨W.heap.size, 0, none⟩) 1 1)).run Try.prog (W.alloc (.cells #[.int .u8 2] 5)) = .ok (St [2]) (W.alloc (.cells #[.int .u8 2] 5)) := fun W => conv1 2 W
      have N2 : ¬ 9223372036854775807 < 1 + l18.length := by omega
      rw [hg] at e0
      clear E L18
      go_wp2
      go_ret
      exact ⟨congrArg Ending.returned (by rw [E2.out]; exact congrArg Value.string (cat2 [2] l18)), (hC.step (below_alloc _ _)).1⟩
    | false =>
      have hls : leaseS c.l = true := by unfold changeS at h; rw [hg] at h; exact h
      obtain ⟨_, hun, hst, hcl⟩ := lease_range hls
      have E2 := hide (show encB c = [1] ++ l18 ++ restB c.l by rw [E.out, if_neg (by rw [hg]; decide)]; rfl)
      have RN := hide (fun W => run_any c.l.cl W)
      rw [show runO c.l.cl = true from decide_eq_true (by omega), show runV c.l.cl = ⟨(beL 2 c.l.cl.size ++ c.l.cl.data.toList).toArray⟩ from by unfold runV; rw [if_pos (show runO c.l.cl = true from decide_eq_true (by omega))]] at RN
      have B3 := byte_wrap (x := c.l.st) (by omega) (by omega)
      have B3' : c.l.st % 256 = ((UInt8.ofNat c.l.st.toNat).toNat : Int) := by rw [← IntKind.wrap_u8, B3]
      have P4 := hide (fun W => put32_any c.l.ia hc.ia W)
      have P8 := hide (fun W => put64_any c.l.un.toNat (by omega) W)
      have U1 : IntKind.u64.wrap c.l.un = (c.l.un.toNat : Int) := by rw [IntKind.wrap_u64]; omega
      have U2 : c.l.un % 18446744073709551616 = (c.l.un.toNat : Int) := by omega
      have RB : restB c.l = [UInt8.ofNat c.l.st.toNat] ++ beL 4 c.l.ia ++ beL 8 c.l.un.toNat ++ (beL 2 c.l.cl.size ++ c.l.cl.data.toList) := rfl
      rw [RB] at E2
      clear RB hls
      have L4 := beL_length 4 c.l.ia
      have L8 := beL_length 8 c.l.un.toNat
      have LR : (beL 2 c.l.cl.size ++ c.l.cl.data.toList).length ≤ 132 := by
        rw [List.length_append, beL_length]
        have : c.l.cl.data.toList.length = c.l.cl.size := rfl
        omega
      generalize UInt8.ofNat c.l.st.toNat = b3 at *
      generalize beL 4 c.l.ia = l4 at *
      generalize beL 8 c.l.un.toNat = l8 at *
      generalize beL 2 c.l.cl.size ++ c.l.cl.data.toList = lr at *
      generalize hun2 : c.l.un.toNat = un at *
      clear hun2
      obtain ⟨m1, M1⟩ : ∃ m, Hid (m = [1] ++ l18) := ⟨_, hide rfl⟩
      obtain ⟨m2, M2⟩ : ∃ m, Hid (m = m1 ++ [b3]) := ⟨_, hide rfl⟩
      obtain ⟨m3, M3⟩ : ∃ m, Hid (m = m2 ++ l4) := ⟨_, hide rfl⟩
      obtain ⟨m4, M4⟩ : ∃ m, Hid (m = m3 ++ l8) := ⟨_, hide rfl⟩
      obtain ⟨m5, M5⟩ : ∃ m, Hid (m = m4 ++ lr) := ⟨_, hide rfl⟩
      have K1 : m1.length = 19 := by rw [M1.out]; simp; omega
      have K2 : m2.length = 20 := by rw [M2.out]; simp; omega
      have K3 : m3.length = 24 := by rw [M3.out]; simp; omega
      have K4 : m4.length = 32 := by rw [M4.out]; simp; omega
      have N2 : ¬ 9223372036854775807 < 1 + l18.length := by omega
      have N3 : ¬ 9223372036854775807 < m1.length + 1 := by omega
      have N4 : ¬ 9223372036854775807 < m2.length + l4.length := by omega
      have N5 : ¬ 9223372036854775807 < m3.length + l8.length := by omega
      have N6 : ¬ 9223372036854775807 < m4.length + lr.length := by omega
      clear K1 K2 K3 K4
      rw [hg] at e0
      obtain ⟨_, _, e1, e2, e3, e4, e5, e6, e7, e8⟩ := id hC
      clear E LR L4 L8 L18 hun hst hcl h
      go_wp2_with fail
      refine (RN.out _).mono ?_
      rintro e w1 ⟨rfl, hb1⟩
      have H := hC.step hb1
      clear hC hb1 e0 e1 e2 e3 e4 e5 e6 e7 e8
      go_wp2_with fail
      refine wp_region_rel (EB w c) [some 35, some 36, some 37, some 38, some 39, some 40, some 41, some 42, some 43, some 44, some 45, some 46, some 47, some 48, some 49, some 50, some 51, some 52, some 53, some 54, some 55, some 2] [fun v W => ∃ g, v = .slice (some ⟨g, 0, none⟩) 1 1 ∧ W.cell? ⟨g, 0, none⟩ = some (.int .u8 1), fun v _ => v = St [1], fun v _ => v = St l18, fun v _ => v = St m1, fun v _ => v = .pointer (some ⟨w.heap.size + 1, 4, none⟩), fun v _ => v = .int .i64 c.l.st, fun v _ => v = .int .u8 (b3.toNat : Int), fun v W => ∃ g, v = .slice (some ⟨g, 0, none⟩) 1 1 ∧ W.cell? ⟨g, 0, none⟩ = some (.int .u8 (b3.toNat : Int)), fun v _ => v = St [b3], fun v _ => v = St m2, fun v _ => v = .pointer (some ⟨w.heap.size + 1, 6, none⟩), fun v _ => v = .int .u32 (c.l.ia : Int), fun v _ => v = St l4, fun v _ => v = St m3, fun v _ => v = .pointer (some ⟨w.heap.size + 1, 7, none⟩), fun v _ => v = .int .i64 c.l.un, fun v _ => v = .int .u64 (un : Int), fun v _ => v = St l8, fun v _ => v = St m4, fun v _ => v = St lr, fun v _ => v = St m5, fun v _ => v = St m5] 56 (by kernel_rfl) (by kernel_rfl) rfl rfl (H.step (below_drew _)) ?_ ?_
      · refine ⟨⟨fun _ _ _ ⟨g, h0, h1⟩ hb => ⟨g, h0, keep_cell hb h1⟩, fun a' W K hC hd hf hK => ?_⟩, ⟨fun _ _ _ h _ => h, fun a' W K hC hd hf hK => ?_⟩, ⟨fun _ _ _ h _ => h, fun a' W K hC hd hf hK => ?_⟩, ⟨fun _ _ _ h _ => h, fun a' W K hC hd hf hK => ?_⟩, ⟨fun _ _ _ h _ => h, fun a' W K hC hd hf hK => ?_⟩, ⟨fun _ _ _ h _ => h, fun a' W K hC hd hf hK => ?_⟩, ⟨fun _ _ _ h _ => h, fun a' W K hC hd hf hK => ?_⟩, ⟨fun _ _ _ ⟨g, h0, h1⟩ hb => ⟨g, h0, keep_cell hb h1⟩, fun a' W K hC hd hf hK => ?_⟩, ⟨fun _ _ _ h _ => h, fun a' W K hC hd hf hK => ?_⟩, ⟨fun _ _ _ h _ => h, fun a' W K hC hd hf hK => ?_⟩, ⟨fun _ _ _ h _ => h, fun a' W K hC hd hf hK => ?_⟩, ⟨fun _ _ _ h _ => h, fun a' W K hC hd hf hK => ?_⟩, ⟨fun _ _ _ h _ => h, fun a' W K hC hd hf hK => ?_⟩, ⟨fun _ _ _ h _ => h, fun a' W K hC hd hf hK => ?_⟩, ⟨fun _ _ _ h _ => h, fun a' W K hC hd hf hK => ?_⟩, ⟨fun _ _ _ h _ => h, fun a' W K hC hd hf hK => ?_⟩, ⟨fun _ _ _ h _ => h, fun a' W K hC hd hf hK => ?_⟩, ⟨fun _ _ _ h _ => h, fun a' W K hC hd hf hK => ?_⟩, ⟨fun _ _ _ h _ => h, fun a' W K hC hd hf hK => ?_⟩, ⟨fun _ _ _ h _ => h, fun a' W K hC hd hf hK => ?_⟩, ⟨fun _ _ _ h _ => h, fun a' W K hC hd hf hK => ?_⟩, ⟨fun _ _ _ h _ => h, fun a' W K hC hd hf hK => ?_⟩, trivial⟩
        · go_simp
          exact hK.out _ _ (hC.step (below_alloc _ _)) (below_alloc _ _) ⟨_, rfl, by simp [go_sem]⟩
        · obtain ⟨g35, d35, r35_0⟩ := hd.out 0 35 (by kernel_rfl) rfl
          have CV := conv_at (w := W) (g := g35) [1] 1 (by intro j u hj; match j, hj with | 0, hj => simp at hj; subst hj; exact r35_0)
          simp only [List.length_cons, List.length_nil, Nat.reduceAdd] at CV
          go_simp
          exact hK.out _ _ hC (Below.refl _ _) rfl
        · have f4 : a'.tmps[4]?.getD undef = St l18 := (hf.out 4 (by kernel_rfl)).trans (by simp)
          go_simp
          exact hK.out _ _ hC (Below.refl _ _) rfl
        · have d36 : a'.tmps[36]?.getD undef = St [1] := hd.out 1 36 (by kernel_rfl) rfl
          have d37 : a'.tmps[37]?.getD undef = St l18 := hd.out 2 37 (by kernel_rfl) rfl
          go_simp
          exact hK.out _ _ hC (Below.refl _ _) (congrArg Value.string ((cat2 [1] l18).trans (by rw [M1.out])))
        · have f3 : a'.tmps[3]?.getD undef = .pointer (some ⟨w.heap.size + 1, 0, none⟩) := (hf.out 3 (by kernel_rfl)).trans (by simp)
          go_simp
          exact hK.out _ _ hC (Below.refl _ _) rfl
        · have d39 : a'.tmps[39]?.getD undef = .pointer (some ⟨w.heap.size + 1, 4, none⟩) := hd.out 4 39 (by kernel_rfl) rfl
          obtain ⟨_, e0, e1, e2, e3, e4, e5, e6, e7, e8⟩ := id hC
          go_simp
          exact hK.out _ _ hC (Below.refl _ _) rfl
        · have d40 : a'.tmps[40]?.getD undef = .int .i64 c.l.st := hd.out 5 40 (by kernel_rfl) rfl
          go_simp
          exact hK.out _ _ hC (Below.refl _ _) rfl
        · have d41 : a'.tmps[41]?.getD undef = .int .u8 (b3.toNat : Int) := hd.out 6 41 (by kernel_rfl) rfl
          go_simp
          exact hK.out _ _ (hC.step (below_alloc _ _)) (below_alloc _ _) ⟨_, rfl, by simp [go_sem]⟩
        · obtain ⟨g42, d42, r42_0⟩ := hd.out 7 42 (by kernel_rfl) rfl
          have CV := conv_at (w := W) (g := g42) [b3] 1 (by intro j u hj; match j, hj with | 0, hj => simp at hj; subst hj; exact r42_0)
          simp only [List.length_cons, List.length_nil, Nat.reduceAdd] at CV
          go_simp
          exact hK.out _ _ hC (Below.refl _ _) rfl
        · have d38 : a'.tmps[38]?.getD undef = St m1 := hd.out 3 38 (by kernel_rfl) rfl
          have d43 : a'.tmps[43]?.getD undef = St [b3] := hd.out 8 43 (by kernel_rfl) rfl
          go_simp
          exact hK.out _ _ hC (Below.refl _ _) (congrArg Value.string ((cat2 m1 [b3]).trans (by rw [M2.out])))
        · have f3 : a'.tmps[3]?.getD undef = .pointer (some ⟨w.heap.size + 1, 0, none⟩) := (hf.out 3 (by kernel_rfl)).trans (by simp)
          go_simp
          exact hK.out _ _ hC (Below.refl _ _) rfl
        · have d45 : a'.tmps[45]?.getD undef = .pointer (some ⟨w.heap.size + 1, 6, none⟩) := hd.out 10 45 (by kernel_rfl) rfl
          obtain ⟨_, e0, e1, e2, e3, e4, e5, e6, e7, e8⟩ := id hC
          go_simp
          exact hK.out _ _ hC (Below.refl _ _) rfl
        · have d46 : a'.tmps[46]?.getD undef = .int .u32 (c.l.ia : Int) := hd.out 11 46 (by kernel_rfl) rfl
          go_simp; go_at_call 63; refine (P4.out _).mono ?_; rintro e w2 ⟨rfl, hb2⟩; exact hK.out _ _ (hC.step hb2) hb2 rfl
        · have d44 : a'.tmps[44]?.getD undef = St m2 := hd.out 9 44 (by kernel_rfl) rfl
          have d47 : a'.tmps[47]?.getD undef = St l4 := hd.out 12 47 (by kernel_rfl) rfl
          go_simp
          exact hK.out _ _ hC (Below.refl _ _) (congrArg Value.string ((cat2 m2 l4).trans (by rw [M3.out])))
        · have f3 : a'.tmps[3]?.getD undef = .pointer (some ⟨w.heap.size + 1, 0, none⟩) := (hf.out 3 (by kernel_rfl)).trans (by simp)
          go_simp
          exact hK.out _ _ hC (Below.refl _ _) rfl
        · have d49 : a'.tmps[49]?.getD undef = .pointer (some ⟨w.heap.size + 1, 7, none⟩) := hd.out 14 49 (by kernel_rfl) rfl
          obtain ⟨_, e0, e1, e2, e3, e4, e5, e6, e7, e8⟩ := id hC
          go_simp
          exact hK.out _ _ hC (Below.refl _ _) rfl
        · have d50 : a'.tmps[50]?.getD undef = .int .i64 c.l.un := hd.out 15 50 (by kernel_rfl) rfl
          go_simp
          exact hK.out _ _ hC (Below.refl _ _) rfl
        · have d51 : a'.tmps[51]?.getD undef = .int .u64 (un : Int) := hd.out 16 51 (by kernel_rfl) rfl
          go_simp; go_at_call 64; refine (P8.out _).mono ?_; rintro e w2 ⟨rfl, hb2⟩; exact hK.out _ _ (hC.step hb2) hb2 rfl
        · have d48 : a'.tmps[48]?.getD undef = St m3 := hd.out 13 48 (by kernel_rfl) rfl
          have d52 : a'.tmps[52]?.getD undef = St l8 := hd.out 17 52 (by kernel_rfl) rfl
          go_simp
          exact hK.out _ _ hC (Below.refl _ _) (congrArg Value.string ((cat2 m3 l8).trans (by rw [M4.out])))
        · have f5 : a'.tmps[5]?.getD undef = St lr := (hf.out 5 (by kernel_rfl)).trans (by simp)
          go_simp
          exact hK.out _ _ hC (Below.refl _ _) rfl
        · have d53 : a'.tmps[53]?.getD undef = St m4 := hd.out 18 53 (by kernel_rfl) rfl
          have d54 : a'.tmps[54]?.getD undef = St lr := hd.out 19 54 (by kernel_rfl) rfl
          go_simp
          exact hK.out _ _ hC (Below.refl _ _) (congrArg Value.string ((cat2 m4 lr).trans (by rw [M5.out])))
        · have d55 : a'.tmps[55]?.getD undef = St m5 := hd.out 20 55 (by kernel_rfl) rfl
          go_simp
          exact hK.out _ _ hC (Below.refl _ _) rfl
      · intro vs2 W2 hC2 hR
        obtain ⟨gq0, q0, _⟩ := hR.out 0 (by decide)
        have q1 : vs2 1 = St [1] := hR.out 1 (by decide)
        have q2 : vs2 2 = St l18 := hR.out 2 (by decide)
        have q3 : vs2 3 = St m1 := hR.out 3 (by decide)
        have q4 : vs2 4 = .pointer (some ⟨w.heap.size + 1, 4, none⟩) := hR.out 4 (by decide)
        have q5 : vs2 5 = .int .i64 c.l.st := hR.out 5 (by decide)
        have q6 : vs2 6 = .int .u8 (b3.toNat : Int) := hR.out 6 (by decide)
        obtain ⟨gq7, q7, _⟩ := hR.out 7 (by decide)
        have q8 : vs2 8 = St [b3] := hR.out 8 (by decide)
        have q9 : vs2 9 = St m2 := hR.out 9 (by decide)
        have q10 : vs2 10 = .pointer (some ⟨w.heap.size + 1, 6, none⟩) := hR.out 10 (by decide)
        have q11 : vs2 11 = .int .u32 (c.l.ia : Int) := hR.out 11 (by decide)
        have q12 : vs2 12 = St l4 := hR.out 12 (by decide)
        have q13 : vs2 13 = St m3 := hR.out 13 (by decide)
        have q14 : vs2 14 = .pointer (some ⟨w.heap.size + 1, 7, none⟩) := hR.out 14 (by decide)
        have q15 : vs2 15 = .int .i64 c.l.un := hR.out 15 (by decide)
        have q16 : vs2 16 = .int .u64 (un : Int) := hR.out 16 (by decide)
        have q17 : vs2 17 = St l8 := hR.out 17 (by decide)
        have q18 : vs2 18 = St m4 := hR.out 18 (by decide)
        have q19 : vs2 19 = St lr := hR.out 19 (by decide)
        have q20 : vs2 20 = St m5 := hR.out 20 (by decide)
        have q21 : vs2 21 = St m5 := hR.out 21 (by decide)
        simp only [fillF, Act.put, List.setIfInBounds_toArray, List.set_cons_zero, List.set_cons_succ, Nat.reduceAdd, q0, q1, q2, q3, q4, q5, q6, q7, q8, q9, q10, q11, q12, q13, q14, q15, q16, q17, q18, q19, q20, q21]
        clear hR q0 q1 q2 q3 q4 q5 q6 q7 q8 q9 q10 q11 q12 q13 q14 q15 q16 q17 q18 q19 q20 q21
        go_wp2
        go_ret
        exact ⟨congrArg Ending.returned (st_eq (by rw [E2.out, M5.out, M4.out, M3.out, M2.out, M1.out]; simp only [List.append_assoc])), hC2.1⟩
end Go.Proofs.Ytgioifdmmneapaa
