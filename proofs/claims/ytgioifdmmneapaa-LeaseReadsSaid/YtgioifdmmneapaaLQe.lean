/-
  The contract of the document's own Encode: it returns what the program's returns. Conditions: the words are words of 64 bits; a slice has fewer than 2^63 elements.
-/
import Derived.Test.YtgioifdmmneapaaLRs
import Derived.Test.YtgioifdmmneapaaLFm
import Derived.Test.YtgioifdmmneapaaLMe
import Derived.Test.YtgioifdmmneapaaLRel2
namespace Go.Proofs.Ytgioifdmmneapaa
open Go.RowKit Go.Joins

/-- a world in which nothing old was written, with the change's box -/
def QC (w : World) (g : Nat) (x : Ch) (W : World) : Prop := Below w.heap.size w W ∧ Nin g x W
theorem QC.step {w : World} {g : Nat} {x : Ch} {W W2 : World} (h : QC w g x W) (hb : Below W.heap.size W W2) : QC w g x W2 := ⟨h.1.trans (hb.mono h.1.size), h.2.step hb⟩
theorem enc_take {l : List Ch} {k : Nat} {x : Ch} (h : l[k]? = some x) : beL 2 l.length ++ ((l.take (k + 1)).map encB).flatten = beL 2 l.length ++ ((l.take k).map encB).flatten ++ encB x := by
  rw [List.take_add_one, h]; simp
theorem enc_so_far {l : List Ch} {k : Nat} (h : ∀ (j : Nat) (x : Ch), j < k → l[j]? = some x → changeS x = true) (hl : l.length ≤ 2048) : (beL 2 l.length ++ ((l.take k).map encB).flatten).length ≤ 400000 := by
  have := flat_len (l := l.take k) (fun c hc => by
    obtain ⟨j, hj, e⟩ := List.mem_iff_getElem.1 hc
    rw [List.getElem_take] at e
    have hj2 : j < k ∧ j < l.length := by rw [List.length_take] at hj; omega
    exact h j c hj2.1 (by rw [List.getElem?_eq_getElem hj2.2, e]))
  rw [List.length_take] at this
  rw [List.length_append, beL_length]
  omega

set_option maxRecDepth 100000 in
set_option maxHeartbeats 3000000 in
theorem renc_any (p : Option Go.Addr) (c : Nat) (l : List Ch) (hl : okL l) (w : World) (hr : LstC p l w) :
    Calls Try.prog 21 #[.slice p l.length c] w (Gives (.tuple #[St (encV l), .int .i64 (encE l)]) w) := by
  by_cases h1 : 2048 < l.length
  · have K1 := hide (show encV l = [] by unfold encV; rw [if_pos h1])
    have K2 := hide (show encE l = 6 by unfold encE; rw [if_pos h1])
    have h2 : 2048 < (l.length : Int) := by omega
    clear h1 hl hr
    go_enter Try.func21, Try.ntmps21
    go_wp2
    go_ret2
    exact ⟨congrArg Ending.returned (tup2 (st_eq K1.out.symm) (i64_eq K2.out.symm)), Below.refl _ _⟩
  have h2 : ¬ 2048 < (l.length : Int) := by omega
  have KE : Hid (∀ r, wrongL l = r → encV l = (if r = true then [] else encL l) ∧ encE l = (if r = true then 80 else 0)) := hide (fun r e => by unfold encV encE; rw [if_neg h1, if_neg h1, e]; exact ⟨rfl, rfl⟩)
  have HL := hide hl
  have HR := hide hr
  have hlen : l.length ≤ 2048 := by omega
  have P2 := hide (fun W => put16_ref l.length (by omega) W)
  have W1 : IntKind.u16.wrap (l.length : Int) = (l.length : Int) := by rw [IntKind.wrap_u16]; omega
  clear h1 hl hr
  go_enter Try.func21, Try.ntmps21
  go_wp2_with fail
  refine (P2.out _).mono ?_
  rintro e w2 ⟨rfl, B2⟩
  go_wp2_with fail
  go_loopw [4, 5] (fun v i wr => ∃ (k : Nat) (s0 : List UInt8), k ≤ l.length ∧ i = .int .i64 (k : Nat) ∧ v = St s0 ∧ Hid (s0 = beL 2 l.length ++ ((l.take k).map encB).flatten) ∧ Hid (∀ (j : Nat) (x : Ch), j < k → l[j]? = some x → changeS x = true) ∧ Below w.heap.size w wr) (fun _ i _ => l.length - (intOf i).toNat)
  case atStart => exact ⟨0, beL 2 l.length, Nat.zero_le _, rfl, rfl, hide (by simp), hide (fun j x h => absurd h (Nat.not_lt_zero _)), B2⟩
  case round =>
    clear B2
    obtain ⟨k, s0, hk, rfl, rfl, HS, HG, HB⟩ := hrel
    by_cases hlt : k < l.length
    · obtain ⟨x, hx⟩ := get_some hlt
      have okx := HL.out x (List.mem_of_getElem? hx)
      have CX := hide (fun W => rchangeC_any x okx.p W)
      have HR3 := hide (HR.out.step HB)
      obtain ⟨b, o, rfl, x0, x1, x2, x3, x4, x5, x6, x7, x8⟩ := HR3.out k x hx
      have hlt2 : (k : Int) < (l.length : Int) := by omega
      have hk0 : (0 : Int) ≤ (k : Int) := by omega
      have N0 : QC w wr.heap.size x (wr.alloc (.cells #[.bool x.gone, .int .i64 x.l.kind, .int .u64 (hi x.l.p : Nat), .int .u64 (lo x.l.p : Nat), .int .i64 x.l.n, .int .i64 x.l.st, .string x.l.cl, .int .u32 (x.l.ia : Int), .int .i64 x.l.un] 31)) := ⟨chain HB (below_alloc _ _), nin_new wr x⟩
      cases hcx : changeS x with
      | false =>
        have K := KE.out true (wrong_yes hx hcx)
        have K1 := hide K.1
        have K2 := hide K.2
        rw [hcx] at CX
        clear hx hcx K
        go_wp2_with fail
        refine (CX.out _).mono ?_
        rintro e w3 ⟨rfl, hb3⟩
        go_wp2
        go_ret2
        exact ⟨congrArg Ending.returned (tup2 (st_eq (by rw [K1.out]; rfl)) (i64_eq (by rw [K2.out]; rfl))), chain N0.1 hb3⟩
      | true =>
        rw [hcx] at CX
        have HS2 := hide (show beL 2 l.length ++ ((l.take (k + 1)).map encB).flatten = s0 ++ encB x by rw [enc_take hx, ← HS.out])
        have HG2 := hide (show ∀ (j : Nat) (y : Ch), j < k + 1 → l[j]? = some y → changeS y = true from fun j y hj hy => by
          by_cases e : j = k
          · subst e
            rw [hx] at hy
            cases hy
            exact hcx
          · exact HG.out j y (by omega) hy)
        have s0l : s0.length ≤ 400000 := by rw [HS.out]; exact enc_so_far HG.out hlen
        have hr := right_range (change_right hcx)
        have B1 := byte_wrap (x := x.l.kind) (by omega) (by omega)
        have B2 := byte_wrap (x := x.l.n) (by omega) (by omega)
        have B1' : x.l.kind % 256 = ((UInt8.ofNat x.l.kind.toNat).toNat : Int) := by rw [← IntKind.wrap_u8, B1]
        have B2' : x.l.n % 256 = ((UInt8.ofNat x.l.n.toNat).toNat : Int) := by rw [← IntKind.wrap_u8, B2]
        have PA := hide (fun W => putAddr_ref okx.p W)
        have L16 := beL_length 16 x.l.p
        cases hg : x.gone with
        | true =>
          have EB := hide (encB_gone hg)
          have HGo := hide hg
          clear hg
          generalize UInt8.ofNat x.l.kind.toNat = b1 at *
          generalize UInt8.ofNat x.l.n.toNat = b2 at *
          generalize beL 16 x.l.p = l16 at *
          obtain ⟨m1, M1⟩ : ∃ m, Hid (m = s0 ++ [2, b1, b2]) := ⟨_, hide rfl⟩
          obtain ⟨m2, M2⟩ : ∃ m, Hid (m = m1 ++ l16) := ⟨_, hide rfl⟩
          have K1 : m1.length = s0.length + 3 := by rw [M1.out]; simp
          have N1 : ¬ 9223372036854775807 < s0.length + 3 := by omega
          have N2 : ¬ 9223372036854775807 < m1.length + l16.length := by omega
          clear hx hcx hr K1 okx s0l L16
          go_wp2_with fail
          refine (CX.out _).mono ?_
          rintro e w3 ⟨rfl, hb3⟩
          have N3 := N0.step hb3
          clear N0 hb3 x0 x1 x2 x3 x4 x5 x6 x7 x8
          obtain ⟨e0, e1, e2, e3, e4, e5, e6, e7, e8⟩ := N3.2.cells
          rw [HGo.out] at e0
          go_wp2_with fail
          clear e0 e1 e2 e3 e4 e5 e6 e7 e8
          refine wp_region_rel2 (QC w wr.heap.size x) [some 32, some 33, some 34, some 35, some 36, some 37, some 38, some 39, some 40, some 41, some 42, some 43, some 44, some 45, some 46, some 47, some 48, some 49, some 50, some 51, some 4] [fun yy _ => yy = St s0, fun yy _ => yy = .int .u8 2, fun yy _ => yy = .pointer (some ⟨wr.heap.size, 1, none⟩), fun yy _ => yy = .pointer (some ⟨wr.heap.size, 1, none⟩), fun yy _ => yy = .int .i64 x.l.kind, fun yy _ => yy = .int .u8 (b1.toNat : Int), fun yy _ => yy = .pointer (some ⟨wr.heap.size, 1, none⟩), fun yy _ => yy = .pointer (some ⟨wr.heap.size, 2, none⟩), fun yy _ => yy = .pointer (some ⟨wr.heap.size, 4, none⟩), fun yy _ => yy = .int .i64 x.l.n, fun yy _ => yy = .int .u8 (b2.toNat : Int), fun yy W => ∃ g, yy = .slice (some ⟨g, 0, none⟩) 3 3 ∧ W.cell? ⟨g, 0, none⟩ = some (.int .u8 2) ∧ W.cell? ⟨g, 1, none⟩ = some (.int .u8 (b1.toNat : Int)) ∧ W.cell? ⟨g, 2, none⟩ = some (.int .u8 (b2.toNat : Int)), fun yy _ => yy = St [2, b1, b2], fun yy _ => yy = St m1, fun yy _ => yy = .pointer (some ⟨wr.heap.size, 1, none⟩), fun yy _ => yy = .pointer (some ⟨wr.heap.size, 2, none⟩), fun yy _ => yy = .pointer (some ⟨wr.heap.size, 2, none⟩), fun yy _ => yy = A x.l.p, fun yy _ => yy = St l16, fun yy _ => yy = St m2, fun yy _ => yy = St m2] 84 (by kernel_rfl) (by kernel_rfl) rfl rfl (N3.step (below_drew _)) ?_ ?_
          · refine ⟨⟨fun _ _ _ h _ => h, fun a' W K hC hd hf hK => ?_⟩, ⟨fun _ _ _ h _ => h, fun a' W K hC hd hf hK => ?_⟩, ⟨fun _ _ _ h _ => h, fun a' W K hC hd hf hK => ?_⟩, ⟨fun _ _ _ h _ => h, fun a' W K hC hd hf hK => ?_⟩, ⟨fun _ _ _ h _ => h, fun a' W K hC hd hf hK => ?_⟩, ⟨fun _ _ _ h _ => h, fun a' W K hC hd hf hK => ?_⟩, ⟨fun _ _ _ h _ => h, fun a' W K hC hd hf hK => ?_⟩, ⟨fun _ _ _ h _ => h, fun a' W K hC hd hf hK => ?_⟩, ⟨fun _ _ _ h _ => h, fun a' W K hC hd hf hK => ?_⟩, ⟨fun _ _ _ h _ => h, fun a' W K hC hd hf hK => ?_⟩, ⟨fun _ _ _ h _ => h, fun a' W K hC hd hf hK => ?_⟩, ⟨fun _ _ _ ⟨g, h0, h1, h2, h3⟩ hb => ⟨g, h0, keep_cell hb h1, keep_cell hb h2, keep_cell hb h3⟩, fun a' W K hC hd hf hK => ?_⟩, ⟨fun _ _ _ h _ => h, fun a' W K hC hd hf hK => ?_⟩, ⟨fun _ _ _ h _ => h, fun a' W K hC hd hf hK => ?_⟩, ⟨fun _ _ _ h _ => h, fun a' W K hC hd hf hK => ?_⟩, ⟨fun _ _ _ h _ => h, fun a' W K hC hd hf hK => ?_⟩, ⟨fun _ _ _ h _ => h, fun a' W K hC hd hf hK => ?_⟩, ⟨fun _ _ _ h _ => h, fun a' W K hC hd hf hK => ?_⟩, ⟨fun _ _ _ h _ => h, fun a' W K hC hd hf hK => ?_⟩, ⟨fun _ _ _ h _ => h, fun a' W K hC hd hf hK => ?_⟩, ⟨fun _ _ _ h _ => h, fun a' W K hC hd hf hK => ?_⟩, trivial⟩
            · have f4 : a'.tmps[4]?.getD undef = St s0 := (hf.out 4 (by kernel_rfl)).trans (by simp)
              go_simp
              exact hK.out _ _ hC (Below.refl _ _) rfl
            · have f7 : a'.tmps[7]?.getD undef = .int .u8 2 := (hf.out 7 (by kernel_rfl)).trans (by simp)
              go_simp
              exact hK.out _ _ hC (Below.refl _ _) rfl
            · have f6 : a'.tmps[6]?.getD undef = .pointer (some ⟨wr.heap.size, 0, none⟩) := (hf.out 6 (by kernel_rfl)).trans (by simp)
              go_simp
              exact hK.out _ _ hC (Below.refl _ _) rfl
            · have d34 : a'.tmps[34]?.getD undef = .pointer (some ⟨wr.heap.size, 1, none⟩) := hd.out 2 34 (by kernel_rfl) rfl
              go_simp
              exact hK.out _ _ hC (Below.refl _ _) rfl
            · have d35 : a'.tmps[35]?.getD undef = .pointer (some ⟨wr.heap.size, 1, none⟩) := hd.out 3 35 (by kernel_rfl) rfl
              obtain ⟨e0, e1, e2, e3, e4, e5, e6, e7, e8⟩ := hC.2.cells
              go_simp
              exact hK.out _ _ hC (Below.refl _ _) rfl
            · have d36 : a'.tmps[36]?.getD undef = .int .i64 x.l.kind := hd.out 4 36 (by kernel_rfl) rfl
              go_simp
              exact hK.out _ _ hC (Below.refl _ _) rfl
            · have f6 : a'.tmps[6]?.getD undef = .pointer (some ⟨wr.heap.size, 0, none⟩) := (hf.out 6 (by kernel_rfl)).trans (by simp)
              go_simp
              exact hK.out _ _ hC (Below.refl _ _) rfl
            · have d38 : a'.tmps[38]?.getD undef = .pointer (some ⟨wr.heap.size, 1, none⟩) := hd.out 6 38 (by kernel_rfl) rfl
              go_simp
              exact hK.out _ _ hC (Below.refl _ _) rfl
            · have d39 : a'.tmps[39]?.getD undef = .pointer (some ⟨wr.heap.size, 2, none⟩) := hd.out 7 39 (by kernel_rfl) rfl
              go_simp
              exact hK.out _ _ hC (Below.refl _ _) rfl
            · have d40 : a'.tmps[40]?.getD undef = .pointer (some ⟨wr.heap.size, 4, none⟩) := hd.out 8 40 (by kernel_rfl) rfl
              obtain ⟨e0, e1, e2, e3, e4, e5, e6, e7, e8⟩ := hC.2.cells
              go_simp
              exact hK.out _ _ hC (Below.refl _ _) rfl
            · have d41 : a'.tmps[41]?.getD undef = .int .i64 x.l.n := hd.out 9 41 (by kernel_rfl) rfl
              go_simp
              exact hK.out _ _ hC (Below.refl _ _) rfl
            · have d33 : a'.tmps[33]?.getD undef = .int .u8 2 := hd.out 1 33 (by kernel_rfl) rfl
              have d37 : a'.tmps[37]?.getD undef = .int .u8 (b1.toNat : Int) := hd.out 5 37 (by kernel_rfl) rfl
              have d42 : a'.tmps[42]?.getD undef = .int .u8 (b2.toNat : Int) := hd.out 10 42 (by kernel_rfl) rfl
              go_simp
              exact hK.out _ _ (hC.step (below_alloc _ _)) (below_alloc _ _) ⟨_, rfl, by simp [go_sem], by simp [go_sem], by simp [go_sem]⟩
            · obtain ⟨g43, d43, r43_0, r43_1, r43_2⟩ := hd.out 11 43 (by kernel_rfl) rfl
              have CV := conv_at (w := W) (g := g43) [2, b1, b2] 3 (by intro j u hj; match j, hj with | 0, hj => simp at hj; subst hj; exact r43_0 | 1, hj => simp at hj; subst hj; exact r43_1 | 2, hj => simp at hj; subst hj; exact r43_2)
              simp only [List.length_cons, List.length_nil, Nat.reduceAdd] at CV
              go_simp
              exact hK.out _ _ hC (Below.refl _ _) rfl
            · have d32 : a'.tmps[32]?.getD undef = St s0 := hd.out 0 32 (by kernel_rfl) rfl
              have d44 : a'.tmps[44]?.getD undef = St [2, b1, b2] := hd.out 12 44 (by kernel_rfl) rfl
              go_simp
              exact hK.out _ _ hC (Below.refl _ _) (congrArg Value.string ((cat2 s0 [2, b1, b2]).trans (by rw [M1.out])))
            · have f6 : a'.tmps[6]?.getD undef = .pointer (some ⟨wr.heap.size, 0, none⟩) := (hf.out 6 (by kernel_rfl)).trans (by simp)
              go_simp
              exact hK.out _ _ hC (Below.refl _ _) rfl
            · have d46 : a'.tmps[46]?.getD undef = .pointer (some ⟨wr.heap.size, 1, none⟩) := hd.out 14 46 (by kernel_rfl) rfl
              go_simp
              exact hK.out _ _ hC (Below.refl _ _) rfl
            · have d47 : a'.tmps[47]?.getD undef = .pointer (some ⟨wr.heap.size, 2, none⟩) := hd.out 15 47 (by kernel_rfl) rfl
              go_simp
              exact hK.out _ _ hC (Below.refl _ _) rfl
            · have d48 : a'.tmps[48]?.getD undef = .pointer (some ⟨wr.heap.size, 2, none⟩) := hd.out 16 48 (by kernel_rfl) rfl
              obtain ⟨e0, e1, e2, e3, e4, e5, e6, e7, e8⟩ := hC.2.cells
              go_simp
              exact hK.out _ _ hC (Below.refl _ _) rfl
            · have d49 : a'.tmps[49]?.getD undef = A x.l.p := hd.out 17 49 (by kernel_rfl) rfl
              go_simp; go_at_call 41; refine (PA.out _).mono ?_; rintro e w2 ⟨rfl, hb2⟩; exact hK.out _ _ (hC.step hb2) hb2 rfl
            · have d45 : a'.tmps[45]?.getD undef = St m1 := hd.out 13 45 (by kernel_rfl) rfl
              have d50 : a'.tmps[50]?.getD undef = St l16 := hd.out 18 50 (by kernel_rfl) rfl
              go_simp
              exact hK.out _ _ hC (Below.refl _ _) (congrArg Value.string ((cat2 m1 l16).trans (by rw [M2.out])))
            · have d51 : a'.tmps[51]?.getD undef = St m2 := hd.out 19 51 (by kernel_rfl) rfl
              go_simp
              exact hK.out _ _ hC (Below.refl _ _) rfl
          · intro vs W3 hC3 hR
            have q0 : vs 0 = St s0 := hR.out 0 (by decide)
            have q1 : vs 1 = .int .u8 2 := hR.out 1 (by decide)
            have q2 : vs 2 = .pointer (some ⟨wr.heap.size, 1, none⟩) := hR.out 2 (by decide)
            have q3 : vs 3 = .pointer (some ⟨wr.heap.size, 1, none⟩) := hR.out 3 (by decide)
            have q4 : vs 4 = .int .i64 x.l.kind := hR.out 4 (by decide)
            have q5 : vs 5 = .int .u8 (b1.toNat : Int) := hR.out 5 (by decide)
            have q6 : vs 6 = .pointer (some ⟨wr.heap.size, 1, none⟩) := hR.out 6 (by decide)
            have q7 : vs 7 = .pointer (some ⟨wr.heap.size, 2, none⟩) := hR.out 7 (by decide)
            have q8 : vs 8 = .pointer (some ⟨wr.heap.size, 4, none⟩) := hR.out 8 (by decide)
            have q9 : vs 9 = .int .i64 x.l.n := hR.out 9 (by decide)
            have q10 : vs 10 = .int .u8 (b2.toNat : Int) := hR.out 10 (by decide)
            obtain ⟨gq11, q11, _, _, _⟩ := hR.out 11 (by decide)
            have q12 : vs 12 = St [2, b1, b2] := hR.out 12 (by decide)
            have q13 : vs 13 = St m1 := hR.out 13 (by decide)
            have q14 : vs 14 = .pointer (some ⟨wr.heap.size, 1, none⟩) := hR.out 14 (by decide)
            have q15 : vs 15 = .pointer (some ⟨wr.heap.size, 2, none⟩) := hR.out 15 (by decide)
            have q16 : vs 16 = .pointer (some ⟨wr.heap.size, 2, none⟩) := hR.out 16 (by decide)
            have q17 : vs 17 = A x.l.p := hR.out 17 (by decide)
            have q18 : vs 18 = St l16 := hR.out 18 (by decide)
            have q19 : vs 19 = St m2 := hR.out 19 (by decide)
            have q20 : vs 20 = St m2 := hR.out 20 (by decide)
            simp only [fillF, Act.put, List.setIfInBounds_toArray, List.set_cons_zero, List.set_cons_succ, Nat.reduceAdd, q0, q1, q2, q3, q4, q5, q6, q7, q8, q9, q10, q11, q12, q13, q14, q15, q16, q17, q18, q19, q20]
            clear hR q0 q1 q2 q3 q4 q5 q6 q7 q8 q9 q10 q11 q12 q13 q14 q15 q16 q17 q18 q19 q20
            obtain ⟨e0, _⟩ := hC3.2.cells
            rw [HGo.out] at e0
            go_wp2
            go_roundw
            case rel => exact ⟨k + 1, m2, hlt, by go_num, rfl, hide (by rw [HS2.out, M2.out, M1.out, EB.out]; simp), HG2, hC3.1⟩
            case measure => simp [intOf]; omega
        | false =>
          have EB := hide (encB_put hg)
          have hls : leaseS x.l = true := by unfold changeS at hcx; rw [hg] at hcx; exact hcx
          have HGo := hide hg
          clear hg
          obtain ⟨_, hun, hst, hcl⟩ := lease_range hls
          have RN := hide (fun W => run_ref x.l.cl W)
          rw [show runO x.l.cl = true from decide_eq_true (by omega), show runV x.l.cl = ⟨(beL 2 x.l.cl.size ++ x.l.cl.data.toList).toArray⟩ from by unfold runV; rw [if_pos (show runO x.l.cl = true from decide_eq_true (by omega))]] at RN
          have B3 := byte_wrap (x := x.l.st) (by omega) (by omega)
          have B3' : x.l.st % 256 = ((UInt8.ofNat x.l.st.toNat).toNat : Int) := by rw [← IntKind.wrap_u8, B3]
          have P4 := hide (fun W => put32_ref x.l.ia okx.ia W)
          have P8 := hide (fun W => put64_ref x.l.un.toNat (by omega) W)
          have U1 : IntKind.u64.wrap x.l.un = (x.l.un.toNat : Int) := by rw [IntKind.wrap_u64]; omega
          have U2 : x.l.un % 18446744073709551616 = (x.l.un.toNat : Int) := by omega
          have L4 := beL_length 4 x.l.ia
          have L8 := beL_length 8 x.l.un.toNat
          have LR : (beL 2 x.l.cl.size ++ x.l.cl.data.toList).length ≤ 132 := by
            rw [List.length_append, beL_length]
            have : x.l.cl.data.toList.length = x.l.cl.size := rfl
            omega
          generalize UInt8.ofNat x.l.kind.toNat = b1 at *
          generalize UInt8.ofNat x.l.n.toNat = b2 at *
          generalize beL 16 x.l.p = l16 at *
          generalize UInt8.ofNat x.l.st.toNat = b3 at *
          generalize beL 4 x.l.ia = l4 at *
          generalize beL 8 x.l.un.toNat = l8 at *
          generalize beL 2 x.l.cl.size ++ x.l.cl.data.toList = lr at *
          generalize hun2 : x.l.un.toNat = un at *
          obtain ⟨m1, M1⟩ : ∃ m, Hid (m = s0 ++ [1, b1, b2]) := ⟨_, hide rfl⟩
          obtain ⟨m2, M2⟩ : ∃ m, Hid (m = m1 ++ l16) := ⟨_, hide rfl⟩
          obtain ⟨m3, M3⟩ : ∃ m, Hid (m = m2 ++ [b3]) := ⟨_, hide rfl⟩
          obtain ⟨m4, M4⟩ : ∃ m, Hid (m = m3 ++ l4) := ⟨_, hide rfl⟩
          obtain ⟨m5, M5⟩ : ∃ m, Hid (m = m4 ++ l8) := ⟨_, hide rfl⟩
          obtain ⟨m6, M6⟩ : ∃ m, Hid (m = m5 ++ lr) := ⟨_, hide rfl⟩
          have K1 : m1.length = s0.length + 3 := by rw [M1.out]; simp
          have K2 : m2.length = s0.length + 19 := by rw [M2.out]; simp; omega
          have K3 : m3.length = s0.length + 20 := by rw [M3.out]; simp; omega
          have K4 : m4.length = s0.length + 24 := by rw [M4.out]; simp; omega
          have K5 : m5.length = s0.length + 32 := by rw [M5.out]; simp; omega
          have N1 : ¬ 9223372036854775807 < s0.length + 3 := by omega
          have N2 : ¬ 9223372036854775807 < m1.length + l16.length := by omega
          have Q3 : ¬ 9223372036854775807 < m2.length + 1 := by omega
          have Q4 : ¬ 9223372036854775807 < m3.length + l4.length := by omega
          have Q5 : ¬ 9223372036854775807 < m4.length + l8.length := by omega
          have Q6 : ¬ 9223372036854775807 < m5.length + lr.length := by omega
          clear hx hcx hr K1 K2 K3 K4 K5 okx s0l L16 L4 L8 LR hun2 hun hst hcl hls
          go_wp2_with fail
          refine (CX.out _).mono ?_
          rintro e w3 ⟨rfl, hb3⟩
          have N3 := N0.step hb3
          clear N0 hb3 x0 x1 x2 x3 x4 x5 x6 x7 x8
          obtain ⟨e0, e1, e2, e3, e4, e5, e6, e7, e8⟩ := N3.2.cells
          rw [HGo.out] at e0
          go_wp2_with fail
          clear e0 e1 e2 e3 e4 e5 e6 e7 e8
          refine wp_region_rel2 (QC w wr.heap.size x) [some 32, some 33, some 34, some 35, some 36, some 37, some 38, some 39, some 40, some 41, some 42, some 43, some 44, some 45, some 46, some 47, some 48, some 49, some 50, some 51, some 4] [fun yy _ => yy = St s0, fun yy _ => yy = .int .u8 1, fun yy _ => yy = .pointer (some ⟨wr.heap.size, 1, none⟩), fun yy _ => yy = .pointer (some ⟨wr.heap.size, 1, none⟩), fun yy _ => yy = .int .i64 x.l.kind, fun yy _ => yy = .int .u8 (b1.toNat : Int), fun yy _ => yy = .pointer (some ⟨wr.heap.size, 1, none⟩), fun yy _ => yy = .pointer (some ⟨wr.heap.size, 2, none⟩), fun yy _ => yy = .pointer (some ⟨wr.heap.size, 4, none⟩), fun yy _ => yy = .int .i64 x.l.n, fun yy _ => yy = .int .u8 (b2.toNat : Int), fun yy W => ∃ g, yy = .slice (some ⟨g, 0, none⟩) 3 3 ∧ W.cell? ⟨g, 0, none⟩ = some (.int .u8 1) ∧ W.cell? ⟨g, 1, none⟩ = some (.int .u8 (b1.toNat : Int)) ∧ W.cell? ⟨g, 2, none⟩ = some (.int .u8 (b2.toNat : Int)), fun yy _ => yy = St [1, b1, b2], fun yy _ => yy = St m1, fun yy _ => yy = .pointer (some ⟨wr.heap.size, 1, none⟩), fun yy _ => yy = .pointer (some ⟨wr.heap.size, 2, none⟩), fun yy _ => yy = .pointer (some ⟨wr.heap.size, 2, none⟩), fun yy _ => yy = A x.l.p, fun yy _ => yy = St l16, fun yy _ => yy = St m2, fun yy _ => yy = St m2] 84 (by kernel_rfl) (by kernel_rfl) rfl rfl (N3.step (below_drew _)) ?_ ?_
          · refine ⟨⟨fun _ _ _ h _ => h, fun a' W K hC hd hf hK => ?_⟩, ⟨fun _ _ _ h _ => h, fun a' W K hC hd hf hK => ?_⟩, ⟨fun _ _ _ h _ => h, fun a' W K hC hd hf hK => ?_⟩, ⟨fun _ _ _ h _ => h, fun a' W K hC hd hf hK => ?_⟩, ⟨fun _ _ _ h _ => h, fun a' W K hC hd hf hK => ?_⟩, ⟨fun _ _ _ h _ => h, fun a' W K hC hd hf hK => ?_⟩, ⟨fun _ _ _ h _ => h, fun a' W K hC hd hf hK => ?_⟩, ⟨fun _ _ _ h _ => h, fun a' W K hC hd hf hK => ?_⟩, ⟨fun _ _ _ h _ => h, fun a' W K hC hd hf hK => ?_⟩, ⟨fun _ _ _ h _ => h, fun a' W K hC hd hf hK => ?_⟩, ⟨fun _ _ _ h _ => h, fun a' W K hC hd hf hK => ?_⟩, ⟨fun _ _ _ ⟨g, h0, h1, h2, h3⟩ hb => ⟨g, h0, keep_cell hb h1, keep_cell hb h2, keep_cell hb h3⟩, fun a' W K hC hd hf hK => ?_⟩, ⟨fun _ _ _ h _ => h, fun a' W K hC hd hf hK => ?_⟩, ⟨fun _ _ _ h _ => h, fun a' W K hC hd hf hK => ?_⟩, ⟨fun _ _ _ h _ => h, fun a' W K hC hd hf hK => ?_⟩, ⟨fun _ _ _ h _ => h, fun a' W K hC hd hf hK => ?_⟩, ⟨fun _ _ _ h _ => h, fun a' W K hC hd hf hK => ?_⟩, ⟨fun _ _ _ h _ => h, fun a' W K hC hd hf hK => ?_⟩, ⟨fun _ _ _ h _ => h, fun a' W K hC hd hf hK => ?_⟩, ⟨fun _ _ _ h _ => h, fun a' W K hC hd hf hK => ?_⟩, ⟨fun _ _ _ h _ => h, fun a' W K hC hd hf hK => ?_⟩, trivial⟩
            · have f4 : a'.tmps[4]?.getD undef = St s0 := (hf.out 4 (by kernel_rfl)).trans (by simp)
              go_simp
              exact hK.out _ _ hC (Below.refl _ _) rfl
            · have f7 : a'.tmps[7]?.getD undef = .int .u8 1 := (hf.out 7 (by kernel_rfl)).trans (by simp)
              go_simp
              exact hK.out _ _ hC (Below.refl _ _) rfl
            · have f6 : a'.tmps[6]?.getD undef = .pointer (some ⟨wr.heap.size, 0, none⟩) := (hf.out 6 (by kernel_rfl)).trans (by simp)
              go_simp
              exact hK.out _ _ hC (Below.refl _ _) rfl
            · have d34 : a'.tmps[34]?.getD undef = .pointer (some ⟨wr.heap.size, 1, none⟩) := hd.out 2 34 (by kernel_rfl) rfl
              go_simp
              exact hK.out _ _ hC (Below.refl _ _) rfl
            · have d35 : a'.tmps[35]?.getD undef = .pointer (some ⟨wr.heap.size, 1, none⟩) := hd.out 3 35 (by kernel_rfl) rfl
              obtain ⟨e0, e1, e2, e3, e4, e5, e6, e7, e8⟩ := hC.2.cells
              go_simp
              exact hK.out _ _ hC (Below.refl _ _) rfl
            · have d36 : a'.tmps[36]?.getD undef = .int .i64 x.l.kind := hd.out 4 36 (by kernel_rfl) rfl
              go_simp
              exact hK.out _ _ hC (Below.refl _ _) rfl
            · have f6 : a'.tmps[6]?.getD undef = .pointer (some ⟨wr.heap.size, 0, none⟩) := (hf.out 6 (by kernel_rfl)).trans (by simp)
              go_simp
              exact hK.out _ _ hC (Below.refl _ _) rfl
            · have d38 : a'.tmps[38]?.getD undef = .pointer (some ⟨wr.heap.size, 1, none⟩) := hd.out 6 38 (by kernel_rfl) rfl
              go_simp
              exact hK.out _ _ hC (Below.refl _ _) rfl
            · have d39 : a'.tmps[39]?.getD undef = .pointer (some ⟨wr.heap.size, 2, none⟩) := hd.out 7 39 (by kernel_rfl) rfl
              go_simp
              exact hK.out _ _ hC (Below.refl _ _) rfl
            · have d40 : a'.tmps[40]?.getD undef = .pointer (some ⟨wr.heap.size, 4, none⟩) := hd.out 8 40 (by kernel_rfl) rfl
              obtain ⟨e0, e1, e2, e3, e4, e5, e6, e7, e8⟩ := hC.2.cells
              go_simp
              exact hK.out _ _ hC (Below.refl _ _) rfl
            · have d41 : a'.tmps[41]?.getD undef = .int .i64 x.l.n := hd.out 9 41 (by kernel_rfl) rfl
              go_simp
              exact hK.out _ _ hC (Below.refl _ _) rfl
            · have d33 : a'.tmps[33]?.getD undef = .int .u8 1 := hd.out 1 33 (by kernel_rfl) rfl
              have d37 : a'.tmps[37]?.getD undef = .int .u8 (b1.toNat : Int) := hd.out 5 37 (by kernel_rfl) rfl
              have d42 : a'.tmps[42]?.getD undef = .int .u8 (b2.toNat : Int) := hd.out 10 42 (by kernel_rfl) rfl
              go_simp
              exact hK.out _ _ (hC.step (below_alloc _ _)) (below_alloc _ _) ⟨_, rfl, by simp [go_sem], by simp [go_sem], by simp [go_sem]⟩
            · obtain ⟨g43, d43, r43_0, r43_1, r43_2⟩ := hd.out 11 43 (by kernel_rfl) rfl
              have CV := conv_at (w := W) (g := g43) [1, b1, b2] 3 (by intro j u hj; match j, hj with | 0, hj => simp at hj; subst hj; exact r43_0 | 1, hj => simp at hj; subst hj; exact r43_1 | 2, hj => simp at hj; subst hj; exact r43_2)
              simp only [List.length_cons, List.length_nil, Nat.reduceAdd] at CV
              go_simp
              exact hK.out _ _ hC (Below.refl _ _) rfl
            · have d32 : a'.tmps[32]?.getD undef = St s0 := hd.out 0 32 (by kernel_rfl) rfl
              have d44 : a'.tmps[44]?.getD undef = St [1, b1, b2] := hd.out 12 44 (by kernel_rfl) rfl
              go_simp
              exact hK.out _ _ hC (Below.refl _ _) (congrArg Value.string ((cat2 s0 [1, b1, b2]).trans (by rw [M1.out])))
            · have f6 : a'.tmps[6]?.getD undef = .pointer (some ⟨wr.heap.size, 0, none⟩) := (hf.out 6 (by kernel_rfl)).trans (by simp)
              go_simp
              exact hK.out _ _ hC (Below.refl _ _) rfl
            · have d46 : a'.tmps[46]?.getD undef = .pointer (some ⟨wr.heap.size, 1, none⟩) := hd.out 14 46 (by kernel_rfl) rfl
              go_simp
              exact hK.out _ _ hC (Below.refl _ _) rfl
            · have d47 : a'.tmps[47]?.getD undef = .pointer (some ⟨wr.heap.size, 2, none⟩) := hd.out 15 47 (by kernel_rfl) rfl
              go_simp
              exact hK.out _ _ hC (Below.refl _ _) rfl
            · have d48 : a'.tmps[48]?.getD undef = .pointer (some ⟨wr.heap.size, 2, none⟩) := hd.out 16 48 (by kernel_rfl) rfl
              obtain ⟨e0, e1, e2, e3, e4, e5, e6, e7, e8⟩ := hC.2.cells
              go_simp
              exact hK.out _ _ hC (Below.refl _ _) rfl
            · have d49 : a'.tmps[49]?.getD undef = A x.l.p := hd.out 17 49 (by kernel_rfl) rfl
              go_simp; go_at_call 41; refine (PA.out _).mono ?_; rintro e w2 ⟨rfl, hb2⟩; exact hK.out _ _ (hC.step hb2) hb2 rfl
            · have d45 : a'.tmps[45]?.getD undef = St m1 := hd.out 13 45 (by kernel_rfl) rfl
              have d50 : a'.tmps[50]?.getD undef = St l16 := hd.out 18 50 (by kernel_rfl) rfl
              go_simp
              exact hK.out _ _ hC (Below.refl _ _) (congrArg Value.string ((cat2 m1 l16).trans (by rw [M2.out])))
            · have d51 : a'.tmps[51]?.getD undef = St m2 := hd.out 19 51 (by kernel_rfl) rfl
              go_simp
              exact hK.out _ _ hC (Below.refl _ _) rfl
          · intro vs W3 hC3 hR
            have q0 : vs 0 = St s0 := hR.out 0 (by decide)
            have q1 : vs 1 = .int .u8 1 := hR.out 1 (by decide)
            have q2 : vs 2 = .pointer (some ⟨wr.heap.size, 1, none⟩) := hR.out 2 (by decide)
            have q3 : vs 3 = .pointer (some ⟨wr.heap.size, 1, none⟩) := hR.out 3 (by decide)
            have q4 : vs 4 = .int .i64 x.l.kind := hR.out 4 (by decide)
            have q5 : vs 5 = .int .u8 (b1.toNat : Int) := hR.out 5 (by decide)
            have q6 : vs 6 = .pointer (some ⟨wr.heap.size, 1, none⟩) := hR.out 6 (by decide)
            have q7 : vs 7 = .pointer (some ⟨wr.heap.size, 2, none⟩) := hR.out 7 (by decide)
            have q8 : vs 8 = .pointer (some ⟨wr.heap.size, 4, none⟩) := hR.out 8 (by decide)
            have q9 : vs 9 = .int .i64 x.l.n := hR.out 9 (by decide)
            have q10 : vs 10 = .int .u8 (b2.toNat : Int) := hR.out 10 (by decide)
            obtain ⟨gq11, q11, _, _, _⟩ := hR.out 11 (by decide)
            have q12 : vs 12 = St [1, b1, b2] := hR.out 12 (by decide)
            have q13 : vs 13 = St m1 := hR.out 13 (by decide)
            have q14 : vs 14 = .pointer (some ⟨wr.heap.size, 1, none⟩) := hR.out 14 (by decide)
            have q15 : vs 15 = .pointer (some ⟨wr.heap.size, 2, none⟩) := hR.out 15 (by decide)
            have q16 : vs 16 = .pointer (some ⟨wr.heap.size, 2, none⟩) := hR.out 16 (by decide)
            have q17 : vs 17 = A x.l.p := hR.out 17 (by decide)
            have q18 : vs 18 = St l16 := hR.out 18 (by decide)
            have q19 : vs 19 = St m2 := hR.out 19 (by decide)
            have q20 : vs 20 = St m2 := hR.out 20 (by decide)
            simp only [fillF, Act.put, List.setIfInBounds_toArray, List.set_cons_zero, List.set_cons_succ, Nat.reduceAdd, q0, q1, q2, q3, q4, q5, q6, q7, q8, q9, q10, q11, q12, q13, q14, q15, q16, q17, q18, q19, q20]
            clear hR q0 q1 q2 q3 q4 q5 q6 q7 q8 q9 q10 q11 q12 q13 q14 q15 q16 q17 q18 q19 q20
            obtain ⟨e0, e1, e2, e3, e4, e5, e6, e7, e8⟩ := hC3.2.cells
            rw [HGo.out] at e0
            go_wp2_with fail
            refine (RN.out _).mono ?_
            rintro e w5 ⟨rfl, hb5⟩
            have H5 := hC3.step hb5
            clear hC3 hb5 e0 e1 e2 e3 e4 e5 e6 e7 e8
            go_wp2_with fail
            refine wp_region_rel2 (QC w wr.heap.size x) [some 62, some 63, some 64, some 65, some 66, some 67, some 68, some 69, some 70, some 71, some 72, some 73, some 74, some 75, some 76, some 77, some 78, some 79, some 80, some 81, some 82, some 4] [fun yy _ => yy = St m2, fun yy _ => yy = .pointer (some ⟨wr.heap.size, 1, none⟩), fun yy _ => yy = .pointer (some ⟨wr.heap.size, 5, none⟩), fun yy _ => yy = .int .i64 x.l.st, fun yy _ => yy = .int .u8 (b3.toNat : Int), fun yy W => ∃ g, yy = .slice (some ⟨g, 0, none⟩) 1 1 ∧ W.cell? ⟨g, 0, none⟩ = some (.int .u8 (b3.toNat : Int)), fun yy _ => yy = St [b3], fun yy _ => yy = St m3, fun yy _ => yy = .pointer (some ⟨wr.heap.size, 1, none⟩), fun yy _ => yy = .pointer (some ⟨wr.heap.size, 7, none⟩), fun yy _ => yy = .int .u32 (x.l.ia : Int), fun yy _ => yy = St l4, fun yy _ => yy = St m4, fun yy _ => yy = .pointer (some ⟨wr.heap.size, 1, none⟩), fun yy _ => yy = .pointer (some ⟨wr.heap.size, 8, none⟩), fun yy _ => yy = .int .i64 x.l.un, fun yy _ => yy = .int .u64 (un : Int), fun yy _ => yy = St l8, fun yy _ => yy = St m5, fun yy _ => yy = St lr, fun yy _ => yy = St m6, fun yy _ => yy = St m6] 84 (by kernel_rfl) (by kernel_rfl) rfl rfl (H5.step (below_drew _)) ?_ ?_
            · refine ⟨⟨fun _ _ _ h _ => h, fun a' W K hC hd hf hK => ?_⟩, ⟨fun _ _ _ h _ => h, fun a' W K hC hd hf hK => ?_⟩, ⟨fun _ _ _ h _ => h, fun a' W K hC hd hf hK => ?_⟩, ⟨fun _ _ _ h _ => h, fun a' W K hC hd hf hK => ?_⟩, ⟨fun _ _ _ h _ => h, fun a' W K hC hd hf hK => ?_⟩, ⟨fun _ _ _ ⟨g, h0, h1⟩ hb => ⟨g, h0, keep_cell hb h1⟩, fun a' W K hC hd hf hK => ?_⟩, ⟨fun _ _ _ h _ => h, fun a' W K hC hd hf hK => ?_⟩, ⟨fun _ _ _ h _ => h, fun a' W K hC hd hf hK => ?_⟩, ⟨fun _ _ _ h _ => h, fun a' W K hC hd hf hK => ?_⟩, ⟨fun _ _ _ h _ => h, fun a' W K hC hd hf hK => ?_⟩, ⟨fun _ _ _ h _ => h, fun a' W K hC hd hf hK => ?_⟩, ⟨fun _ _ _ h _ => h, fun a' W K hC hd hf hK => ?_⟩, ⟨fun _ _ _ h _ => h, fun a' W K hC hd hf hK => ?_⟩, ⟨fun _ _ _ h _ => h, fun a' W K hC hd hf hK => ?_⟩, ⟨fun _ _ _ h _ => h, fun a' W K hC hd hf hK => ?_⟩, ⟨fun _ _ _ h _ => h, fun a' W K hC hd hf hK => ?_⟩, ⟨fun _ _ _ h _ => h, fun a' W K hC hd hf hK => ?_⟩, ⟨fun _ _ _ h _ => h, fun a' W K hC hd hf hK => ?_⟩, ⟨fun _ _ _ h _ => h, fun a' W K hC hd hf hK => ?_⟩, ⟨fun _ _ _ h _ => h, fun a' W K hC hd hf hK => ?_⟩, ⟨fun _ _ _ h _ => h, fun a' W K hC hd hf hK => ?_⟩, ⟨fun _ _ _ h _ => h, fun a' W K hC hd hf hK => ?_⟩, trivial⟩
              · have f4 : a'.tmps[4]?.getD undef = St m2 := (hf.out 4 (by kernel_rfl)).trans (by simp)
                go_simp
                exact hK.out _ _ hC (Below.refl _ _) rfl
              · have f6 : a'.tmps[6]?.getD undef = .pointer (some ⟨wr.heap.size, 0, none⟩) := (hf.out 6 (by kernel_rfl)).trans (by simp)
                go_simp
                exact hK.out _ _ hC (Below.refl _ _) rfl
              · have d63 : a'.tmps[63]?.getD undef = .pointer (some ⟨wr.heap.size, 1, none⟩) := hd.out 1 63 (by kernel_rfl) rfl
                go_simp
                exact hK.out _ _ hC (Below.refl _ _) rfl
              · have d64 : a'.tmps[64]?.getD undef = .pointer (some ⟨wr.heap.size, 5, none⟩) := hd.out 2 64 (by kernel_rfl) rfl
                obtain ⟨e0, e1, e2, e3, e4, e5, e6, e7, e8⟩ := hC.2.cells
                go_simp
                exact hK.out _ _ hC (Below.refl _ _) rfl
              · have d65 : a'.tmps[65]?.getD undef = .int .i64 x.l.st := hd.out 3 65 (by kernel_rfl) rfl
                go_simp
                exact hK.out _ _ hC (Below.refl _ _) rfl
              · have d66 : a'.tmps[66]?.getD undef = .int .u8 (b3.toNat : Int) := hd.out 4 66 (by kernel_rfl) rfl
                go_simp
                exact hK.out _ _ (hC.step (below_alloc _ _)) (below_alloc _ _) ⟨_, rfl, by simp [go_sem]⟩
              · obtain ⟨g67, d67, r67_0⟩ := hd.out 5 67 (by kernel_rfl) rfl
                have CV := conv_at (w := W) (g := g67) [b3] 1 (by intro j u hj; match j, hj with | 0, hj => simp at hj; subst hj; exact r67_0)
                simp only [List.length_cons, List.length_nil, Nat.reduceAdd] at CV
                go_simp
                exact hK.out _ _ hC (Below.refl _ _) rfl
              · have d62 : a'.tmps[62]?.getD undef = St m2 := hd.out 0 62 (by kernel_rfl) rfl
                have d68 : a'.tmps[68]?.getD undef = St [b3] := hd.out 6 68 (by kernel_rfl) rfl
                go_simp
                exact hK.out _ _ hC (Below.refl _ _) (congrArg Value.string ((cat2 m2 [b3]).trans (by rw [M3.out])))
              · have f6 : a'.tmps[6]?.getD undef = .pointer (some ⟨wr.heap.size, 0, none⟩) := (hf.out 6 (by kernel_rfl)).trans (by simp)
                go_simp
                exact hK.out _ _ hC (Below.refl _ _) rfl
              · have d70 : a'.tmps[70]?.getD undef = .pointer (some ⟨wr.heap.size, 1, none⟩) := hd.out 8 70 (by kernel_rfl) rfl
                go_simp
                exact hK.out _ _ hC (Below.refl _ _) rfl
              · have d71 : a'.tmps[71]?.getD undef = .pointer (some ⟨wr.heap.size, 7, none⟩) := hd.out 9 71 (by kernel_rfl) rfl
                obtain ⟨e0, e1, e2, e3, e4, e5, e6, e7, e8⟩ := hC.2.cells
                go_simp
                exact hK.out _ _ hC (Below.refl _ _) rfl
              · have d72 : a'.tmps[72]?.getD undef = .int .u32 (x.l.ia : Int) := hd.out 10 72 (by kernel_rfl) rfl
                go_simp; go_at_call 43; refine (P4.out _).mono ?_; rintro e w2 ⟨rfl, hb2⟩; exact hK.out _ _ (hC.step hb2) hb2 rfl
              · have d69 : a'.tmps[69]?.getD undef = St m3 := hd.out 7 69 (by kernel_rfl) rfl
                have d73 : a'.tmps[73]?.getD undef = St l4 := hd.out 11 73 (by kernel_rfl) rfl
                go_simp
                exact hK.out _ _ hC (Below.refl _ _) (congrArg Value.string ((cat2 m3 l4).trans (by rw [M4.out])))
              · have f6 : a'.tmps[6]?.getD undef = .pointer (some ⟨wr.heap.size, 0, none⟩) := (hf.out 6 (by kernel_rfl)).trans (by simp)
                go_simp
                exact hK.out _ _ hC (Below.refl _ _) rfl
              · have d75 : a'.tmps[75]?.getD undef = .pointer (some ⟨wr.heap.size, 1, none⟩) := hd.out 13 75 (by kernel_rfl) rfl
                go_simp
                exact hK.out _ _ hC (Below.refl _ _) rfl
              · have d76 : a'.tmps[76]?.getD undef = .pointer (some ⟨wr.heap.size, 8, none⟩) := hd.out 14 76 (by kernel_rfl) rfl
                obtain ⟨e0, e1, e2, e3, e4, e5, e6, e7, e8⟩ := hC.2.cells
                go_simp
                exact hK.out _ _ hC (Below.refl _ _) rfl
              · have d77 : a'.tmps[77]?.getD undef = .int .i64 x.l.un := hd.out 15 77 (by kernel_rfl) rfl
                go_simp
                exact hK.out _ _ hC (Below.refl _ _) rfl
              · have d78 : a'.tmps[78]?.getD undef = .int .u64 (un : Int) := hd.out 16 78 (by kernel_rfl) rfl
                go_simp; go_at_call 44; refine (P8.out _).mono ?_; rintro e w2 ⟨rfl, hb2⟩; exact hK.out _ _ (hC.step hb2) hb2 rfl
              · have d74 : a'.tmps[74]?.getD undef = St m4 := hd.out 12 74 (by kernel_rfl) rfl
                have d79 : a'.tmps[79]?.getD undef = St l8 := hd.out 17 79 (by kernel_rfl) rfl
                go_simp
                exact hK.out _ _ hC (Below.refl _ _) (congrArg Value.string ((cat2 m4 l8).trans (by rw [M5.out])))
              · have f8 : a'.tmps[8]?.getD undef = St lr := (hf.out 8 (by kernel_rfl)).trans (by simp)
                go_simp
                exact hK.out _ _ hC (Below.refl _ _) rfl
              · have d80 : a'.tmps[80]?.getD undef = St m5 := hd.out 18 80 (by kernel_rfl) rfl
                have d81 : a'.tmps[81]?.getD undef = St lr := hd.out 19 81 (by kernel_rfl) rfl
                go_simp
                exact hK.out _ _ hC (Below.refl _ _) (congrArg Value.string ((cat2 m5 lr).trans (by rw [M6.out])))
              · have d82 : a'.tmps[82]?.getD undef = St m6 := hd.out 20 82 (by kernel_rfl) rfl
                go_simp
                exact hK.out _ _ hC (Below.refl _ _) rfl
            · intro vt W4 hC4 hR
              have q0 : vt 0 = St m2 := hR.out 0 (by decide)
              have q1 : vt 1 = .pointer (some ⟨wr.heap.size, 1, none⟩) := hR.out 1 (by decide)
              have q2 : vt 2 = .pointer (some ⟨wr.heap.size, 5, none⟩) := hR.out 2 (by decide)
              have q3 : vt 3 = .int .i64 x.l.st := hR.out 3 (by decide)
              have q4 : vt 4 = .int .u8 (b3.toNat : Int) := hR.out 4 (by decide)
              obtain ⟨gq5, q5, _⟩ := hR.out 5 (by decide)
              have q6 : vt 6 = St [b3] := hR.out 6 (by decide)
              have q7 : vt 7 = St m3 := hR.out 7 (by decide)
              have q8 : vt 8 = .pointer (some ⟨wr.heap.size, 1, none⟩) := hR.out 8 (by decide)
              have q9 : vt 9 = .pointer (some ⟨wr.heap.size, 7, none⟩) := hR.out 9 (by decide)
              have q10 : vt 10 = .int .u32 (x.l.ia : Int) := hR.out 10 (by decide)
              have q11 : vt 11 = St l4 := hR.out 11 (by decide)
              have q12 : vt 12 = St m4 := hR.out 12 (by decide)
              have q13 : vt 13 = .pointer (some ⟨wr.heap.size, 1, none⟩) := hR.out 13 (by decide)
              have q14 : vt 14 = .pointer (some ⟨wr.heap.size, 8, none⟩) := hR.out 14 (by decide)
              have q15 : vt 15 = .int .i64 x.l.un := hR.out 15 (by decide)
              have q16 : vt 16 = .int .u64 (un : Int) := hR.out 16 (by decide)
              have q17 : vt 17 = St l8 := hR.out 17 (by decide)
              have q18 : vt 18 = St m5 := hR.out 18 (by decide)
              have q19 : vt 19 = St lr := hR.out 19 (by decide)
              have q20 : vt 20 = St m6 := hR.out 20 (by decide)
              have q21 : vt 21 = St m6 := hR.out 21 (by decide)
              simp only [fillF, Act.put, List.setIfInBounds_toArray, List.set_cons_zero, List.set_cons_succ, Nat.reduceAdd, q0, q1, q2, q3, q4, q5, q6, q7, q8, q9, q10, q11, q12, q13, q14, q15, q16, q17, q18, q19, q20, q21]
              clear hR q0 q1 q2 q3 q4 q5 q6 q7 q8 q9 q10 q11 q12 q13 q14 q15 q16 q17 q18 q19 q20 q21
              go_wp2
              go_roundw
              case rel => exact ⟨k + 1, m6, hlt, by go_num, rfl, hide (by rw [HS2.out, M6.out, M5.out, M4.out, M3.out, M2.out, M1.out, EB.out]; simp), HG2, hC4.1⟩
              case measure => simp [intOf]; omega
    · have e : k = l.length := by omega
      have K := KE.out false (wrong_no (l := l) (fun j x hj => HG.out j x (by have := (List.getElem?_eq_some_iff.1 hj).1; omega) hj))
      have K1 := hide K.1
      have K2 := hide K.2
      have HS3 := hide (show s0 = encL l by rw [HS.out, e, List.take_length]; rfl)
      have hlt2 : ¬ (k : Int) < (l.length : Int) := by omega
      clear e K
      go_wp2
      go_ret2
      exact ⟨congrArg Ending.returned (tup2 (st_eq (by rw [K1.out, HS3.out]; rfl)) (i64_eq (by rw [K2.out]; rfl))), HB⟩
end Go.Proofs.Ytgioifdmmneapaa
