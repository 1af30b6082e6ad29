/-
  The walk of BuddyRow: it returns true. Condition: the words are words of 64 bits, the ints ints of 64 bits (every value of the types is such).
-/
import Derived.Test.YtpieddddckbfdaaBuAp
import Derived.Test.YtpieddddckbfdaaBuT
namespace Go.Proofs.Ytpieddddckbfdaa
open Go.RowKit Go.Joins

/-- an act as memory holds it -/
abbrev Act3 := Int × Bool × Int
def AtA (b o : Nat) (a : Act3) (W : World) : Prop := W.cell? ⟨b, o, none⟩ = some (.int .i64 a.1) ∧ W.cell? ⟨b, o + 1, none⟩ = some (.bool a.2.1) ∧ W.cell? ⟨b, o + 2, none⟩ = some (.int .i64 a.2.2)
theorem AtA.step {b o : Nat} {a : Act3} {W w2 : World} (h : AtA b o a W) (hb : Below W.heap.size W w2) : AtA b o a w2 := ⟨keep_cell hb h.1, keep_cell hb h.2.1, keep_cell hb h.2.2⟩
def LsA (v : Value) (l : List Act3) (W : World) : Prop := (∃ p c, v = .slice p 0 c ∧ l = []) ∨ ∃ b o c, v = .slice (some ⟨b, o, none⟩) l.length c ∧ ∀ (j : Nat) (x : Act3), l[j]? = some x → AtA b (o + j * 3) x W
theorem LsA.step {v : Value} {l : List Act3} {W w2 : World} (h : LsA v l W) (hb : Below W.heap.size W w2) : LsA v l w2 := by
  rcases h with h | ⟨b, o, c, h1, h2⟩
  · exact Or.inl h
  · exact Or.inr ⟨b, o, c, h1, fun j x hj => (h2 j x hj).step hb⟩
theorem lsA_len {v : Value} {l : List Act3} {W : World} (h : LsA v l W) : ∃ p c, v = .slice p l.length c := by
  rcases h with ⟨p, c, h1, h2⟩ | ⟨b, o, c, h1, _⟩
  · exact ⟨p, c, by rw [h1, h2]; rfl⟩
  · exact ⟨_, _, h1⟩
theorem lsA_at {p : Option Go.Addr} {n c : Nat} {l : List Act3} {W : World} {k : Nat} {x : Act3} (h : LsA (.slice p n c) l W) (hx : l[k]? = some x) : ∃ b o, p = some ⟨b, o, none⟩ ∧ AtA b (o + k * 3) x W := by
  rcases h with ⟨p', c', hv, rfl⟩ | ⟨b, o, c', hv, hr⟩
  · simp at hx
  · cases hv; exact ⟨b, o, rfl, hr k x hx⟩
/-- the box of an act -/
def BoxA (g : Nat) (a : Act3) (W : World) : Prop := g < W.heap.size ∧ AtA g 0 a W
theorem BoxA.step {g : Nat} {a : Act3} {W w2 : World} (h : BoxA g a W) (hb : Below W.heap.size W w2) : BoxA g a w2 := ⟨Nat.lt_of_lt_of_le h.1 hb.size, h.2.step hb⟩
theorem boxA_new (V : World) (a : Act3) (t : TypeId) : BoxA V.heap.size a (V.alloc (.cells #[.int .i64 a.1, .bool a.2.1, .int .i64 a.2.2] t)) := by
  refine ⟨by simp, ?_, ?_, ?_⟩ <;> simp [go_sem]
theorem BoxA.all {g : Nat} {a : Act3} {W : World} (h : BoxA g a W) : g < W.heap.size ∧ W.cell? ⟨g, 0, none⟩ = some (.int .i64 a.1) ∧ W.cell? ⟨g, 1, none⟩ = some (.bool a.2.1) ∧ W.cell? ⟨g, 2, none⟩ = some (.int .i64 a.2.2) := h
def FitA (l : List Act3) : Prop := ∀ a ∈ l, I64 a.1 ∧ I64 a.2.2
/-- what the loop keeps -/
def RI (w : World) (p : Bk) (vf : Value) (F : List Bk) (vt : Value) (T : List Bk) (W : World) : Prop := Below w.heap.size w W ∧ Box w.heap.size p W ∧ Own W (w.heap.size + 1) vf F ∧ Own W (w.heap.size + 1) vt T ∧ Sep vf vt
theorem RI.step {w : World} {p : Bk} {vf vt : Value} {F T : List Bk} {W w2 : World} (h : RI w p vf F vt T W) (hb : Below W.heap.size W w2) : RI w p vf F vt T w2 :=
  ⟨chain h.1 hb, h.2.1.step hb, own_keep h.2.2.1 hb, own_keep h.2.2.2.1 hb, h.2.2.2.2⟩
/-- the same, in memory that is newer than V's only -/
def RK (w : World) (p : Bk) (vf : Value) (F : List Bk) (vt : Value) (T : List Bk) (V W : World) : Prop := Below V.heap.size V W ∧ RI w p vf F vt T W
theorem RK.step {w : World} {p : Bk} {vf vt : Value} {F T : List Bk} {V W w2 : World} (h : RK w p vf F vt T V W) (hb : Below W.heap.size W w2) : RK w p vf F vt T V w2 := ⟨chain h.1 hb, h.2.step hb⟩
theorem sep_nil (v : Value) : Sep v (.slice none 0 0) := fun k _ e => by cases e
theorem idx_of (N : Int) (n : Nat) (hn : 0 < n) : ∃ k : Nat, k < n ∧ (N % 18446744073709551616) % (n : Int) = (k : Int) := by
  refine ⟨((N % 18446744073709551616) % (n : Int)).toNat, ?_, ?_⟩
  · have h1 := Int.emod_nonneg (N % 18446744073709551616) (show (n : Int) ≠ 0 by omega)
    have h2 := Int.emod_lt_of_pos (N % 18446744073709551616) (show 0 < (n : Int) by omega)
    omega
  · have h1 := Int.emod_nonneg (N % 18446744073709551616) (show (n : Int) ≠ 0 by omega)
    omega

/-- what the last loop keeps -/
def HL (w : World) (p : Bk) (vf : Value) (F : List Bk) (vt : Value) (T : List Bk) (W : World) : Prop := Below w.heap.size w W ∧ Box w.heap.size p W ∧ Lst vf F W ∧ Lst vt T W
theorem HL.step {w : World} {p : Bk} {vf vt : Value} {F T : List Bk} {W w2 : World} (h : HL w p vf F vt T W) (hb : Below W.heap.size W w2) : HL w p vf F vt T w2 := ⟨chain h.1 hb, h.2.1.step hb, h.2.2.1.step hb, h.2.2.2.step hb⟩
def RelL (w : World) (p : Bk) (kx : Nat) (vf vt : Value) (W : World) : Prop := ∃ F T : List Bk, Hid (Keeps p F T) ∧ F.length + T.length ≤ 10400 ∧ T.length < kx ∧ HL w p vf F vt T W
theorem drop_one {T : List Bk} {x : Bk} (hx : T[0]? = some x) : T = x :: T.drop 1 := by
  match T, hx with
  | y :: r, hx => simp at hx; subst hx; simp

/-- append of one prefix to a row of the call's own, and where the new row lies -/
theorem wpList_append_one {w : World} {ops : Array Oper} {rest : List Oper} {o : Oper} {a : Act} {Q : Exit → Act → World → Prop} (hgd : o.guard = none) (s x : Operand)
    (ho : o.op = .call { callee := .builtin .append, args := #[s, x], argTypes := #[27, 27] })
    (base : Nat) (v : Value) (pre : List Bk) (hs : a.eval s = v) (hown : Own w base v pre) (b c : Nat) (y : Bk) (hx : a.eval x = .slice (some ⟨b, 0, none⟩) 1 c) (hl : RowR b 0 [y] w)
    (hn : pre.length + 1 ≤ 1000000) (hbase : base ≤ w.heap.size)
    (h : ∀ g cap w', Own w' base (.slice (some ⟨g, 0, none⟩) (pre.length + 1) cap) (pre ++ [y]) → Below base w w' → w.grownBy w' v.ownBlock → (v.ownBlock = some g ∨ w.heap.size ≤ g) → wpList Try.prog ops Q rest (a.put o.dst (.slice (some ⟨g, 0, none⟩) (pre.length + 1) cap)) w') : wpList Try.prog ops Q (o :: rest) a w := by
  obtain ⟨i0, hi, hz0, hz1, hz2⟩ := info_parts infoP
  refine wpList_append_lies w hgd s x 27 ho base 26 i0 (.agg #[.int .u64 0, .int .u64 0, .int .i64 0]) 3 24 Try.underlying27 hi hz0 hz1 hz2 rfl (by decide) v pre.length (cellsP pre) hs hown ⟨b, 0, none⟩ 1 c (cellsP [y]) hx (cellsP_len [y]) (row_cells hl) (cellsP_one [y]) (by omega) (by unfold maxLen; omega) (by omega) hbase _ rfl ?_
  intro g cap w' h1 h2 h3 _
  refine h g cap w' ?_ ((Below.refl _ _).grown h2 hbase (fun j hj => (hown.lt j hj).1)) h2 (h3.imp id (fun e => by rw [e]; exact Nat.le_refl _))
  unfold Own
  rw [List.length_append, cellsP_append]
  exact h1

set_option maxRecDepth 100000 in
set_option maxHeartbeats 4000000 in
theorem row_any {va : Value} {p : Bk} {l : List Act3} (fp : FitB p) (hf : FitA l) (w : World) (hv : LsA va l w) :
    Calls Try.prog 4 #[Bv p, va] w (Gives (.bool true) w) := by
  have AW := hide (fun W => awake_any W)
  have SP := hide (fun W => sound_any (p := p.1) fp.1 p.2 W)
  have P0 := box_new w p 26
  have B0 := below_alloc w (.cells #[.int .u64 (hi p.1 : Nat), .int .u64 (lo p.1 : Nat), .int .i64 p.2] 26)
  have HV := hide (fun W (H : Below w.heap.size w W) => hv.step H)
  obtain ⟨q, c, rfl⟩ := lsA_len hv
  clear hv
  cases hs : sndB p with
  | false =>
    have TK := hide (fun W => take_any (v := .slice none 0 0) (l := []) (bits := 64) fp (fun x hx => by simp at hx) (by simp) W (lst_nil W))
    rw [take_bad (Or.inl (show goodL p [] = false by unfold goodL; rw [hs]; rfl))] at TK
    rw [show soundS p.1 p.2 = false from hs] at SP
    clear hs
    go_enter Try.func4, Try.ntmps4
    go_wp2_with fail
    refine (AW.out _).mono ?_
    rintro e w1 ⟨rfl, hb1⟩
    have P1 := P0.step hb1
    have B1 := chain B0 hb1
    clear P0 B0 hb1
    obtain ⟨z, ⟨x1, x2, x3⟩, _⟩ := P1.all
    go_wp2_with fail
    clear z x1 x2 x3
    refine (SP.out _).mono ?_
    rintro e w2 ⟨rfl, hb2⟩
    have P2 := P1.step hb2
    have B2 := chain B1 hb2
    clear P1 B1 hb2
    obtain ⟨z, ⟨x1, x2, x3⟩, _⟩ := P2.all
    go_wp2_with fail
    clear z x1 x2 x3
    refine (TK.out _).mono ?_
    rintro e w3 ⟨v3, rfl, hb3, O3⟩
    have B3 := chain B2 hb3
    clear P2 B2 hb3 O3
    go_wp2
    go_ret
    refine ⟨rfl, ?_⟩
    have hzB := B3.size
    repeat' (first | (with_reducible exact B3) | (with_reducible apply Below.drew) | (with_reducible apply Below.alloc) | (with_reducible apply Below.setCell))
    all_goals first | omega | (dsimp only; omega) | ((try simp); omega)
  | true =>
    rw [show soundS p.1 p.2 = true from hs] at SP
    have KN := hide (keeps_new hs)
    clear hs
    go_enter Try.func4, Try.ntmps4
    go_wp2_with fail
    refine (AW.out _).mono ?_
    rintro e w1 ⟨rfl, hb1⟩
    have P1 := P0.step hb1
    have B1 := chain B0 hb1
    clear P0 B0 hb1 AW
    obtain ⟨z, ⟨x1, x2, x3⟩, _⟩ := P1.all
    go_wp2_with fail
    clear z x1 x2 x3
    refine (SP.out _).mono ?_
    rintro e w2 ⟨rfl, hb2⟩
    have P2 := P1.step hb2
    have B2 := chain B1 hb2
    have O2 := own_base (own_lit w2 p) (show w.heap.size + 1 ≤ w2.heap.size from P2.1)
    clear P1 B1 hb2 SP
    have R2 : RI w p (.slice (some ⟨w2.heap.size, 0, none⟩) 1 1) [p] (.slice none 0 0) [] (w2.alloc (.cells #[.int .u64 (hi p.1 : Nat), .int .u64 (lo p.1 : Nat), .int .i64 p.2] 26)) := ⟨chain B2 (below_alloc _ _), P2.step (below_alloc _ _), O2, own_nil _ _, sep_nil _⟩
    obtain ⟨z, ⟨x1, x2, x3⟩, _⟩ := P2.all
    go_wp2_with fail
    clear z x1 x2 x3 O2 B2 P2
    go_loopw [8, 9, 10] (fun s8 s9 i wr => ∃ (k : Nat) (F T : List Bk), k ≤ 80 ∧ k ≤ l.length ∧ i = .int .i64 (k : Nat) ∧ Hid (Keeps p F T) ∧ F.length ≤ 128 * k + 1 ∧ T.length ≤ k ∧ RI w p s8 F s9 T wr) (fun _ _ i _ => l.length - (intOf i).toNat)
    case atStart => exact ⟨0, [p], [], by omega, Nat.zero_le _, rfl, KN, by simp, by simp, R2⟩
    case round =>
      obtain ⟨k, F, T, k80, kl, rfl, KP, nF, nT, HR⟩ := hrel
      clear R2
      obtain ⟨qf, cf, rfl⟩ := lst_len (own_lst HR.2.2.1)
      obtain ⟨qt, ct, rfl⟩ := lst_len (own_lst HR.2.2.2.1)
      have fFT := hide (keeps_fit fp.1 KP.out)
      by_cases hlt : k < l.length
      · by_cases h80 : k < 80
        · obtain ⟨a, ha⟩ : ∃ a, l[k]? = some a := ⟨_, List.getElem?_eq_getElem hlt⟩
          obtain ⟨ia, ib⟩ := hf a (List.mem_of_getElem? ha)
          obtain ⟨b, o, rfl, a1, a2, a3⟩ := lsA_at (HV.out _ HR.1) ha
          have A0 := boxA_new wr a 42
          have R3 := HR.step (below_alloc wr (.cells #[.int .i64 a.1, .bool a.2.1, .int .i64 a.2.2] 42))
          clear ha HR
          go_upto_region 12 with fail
          clear a1 a2 a3
          generalize wr.alloc (.cells #[.int .i64 a.1, .bool a.2.1, .int .i64 a.2.2] 42) = w3 at *
          generalize wr.heap.size = ga at *
          obtain ⟨bits, back, N⟩ := a
          simp only at ia ib A0
          by_cases hbk : back = true ∧ 0 < T.length
          · obtain ⟨rfl, hT⟩ := hbk
            obtain ⟨kk, hkk, ek⟩ := idx_of N T.length hT
            obtain ⟨x, hx⟩ := get_some hkk
            obtain ⟨z, b1, b2, b3⟩ := A0.all
            have CN1 : IntKind.u64.wrap N = N % 18446744073709551616 := IntKind.wrap_u64 _
            obtain ⟨gt, _, hgv, gt0, _⟩ := R3.2.2.2.1.form hT
            cases hgv
            have gt1 := (R3.2.2.2.1.lt gt rfl).2
            have ct1 := (lst_cap (own_lst R3.2.2.2.1)).2.1
            have fx := fFT.out.2 x (List.mem_of_getElem? hx)
            obtain ⟨G, hG, KG, lG⟩ := keeps_give (keeps_drop KP.out hx)
            have KG' := hide KG
            clear KG
            have GV := hide (fun W v (H : Lst v F W) => give_any fp fx fFT.out.1 (show F.length ≤ 100000 by omega) W H)
            rw [hG] at GV
            have TX := hide (fun W (H : Own W (w.heap.size + 1) (.slice (some ⟨gt, 0, none⟩) T.length ct) T) => lst_at (own_lst H) hx)
            obtain ⟨y, hy⟩ := get_some (show T.length - 1 < T.length by omega)
            have TY := hide (fun W (H : Own W (w.heap.size + 1) (.slice (some ⟨gt, 0, none⟩) T.length ct) T) => lst_at (own_lst H) hy)
            have DK := hide (show dropK T kk = (T.set kk y).take (T.length - 1) by unfold dropK; rw [getD_some hy])
            go_upto_region 14 with fail
            clear b1 b2 b3 z CN1 ek hG hx hy ia ib
            refine wp_region_rel (RK w p (.slice qf F.length cf) F (.slice (some ⟨gt, 0, none⟩) T.length ct) T w3) [some 65, some 66, some 67, some 68, some 69, some 70, some 71, some 64, some 72, some 73, some 13, some 14] [fun yy _ => yy = Bv p, fun yy _ => yy = .slice qf F.length cf, fun yy _ => yy = .slice (some ⟨gt, 0, none⟩) T.length ct, fun yy _ => yy = .int .i64 (kk : Nat), fun yy _ => yy = .pointer (some ⟨gt, kk * 3, none⟩), fun yy _ => yy = Bv x, fun yy W => ∃ v, yy = .tuple #[v, .int .i64 0] ∧ Own W w3.heap.size v G, fun yy W => ∃ v, yy = .tuple #[v, .int .i64 0] ∧ Own W w3.heap.size v G, fun yy W => Own W w3.heap.size yy G, fun yy _ => yy = .int .i64 0, fun yy W => Own W w3.heap.size yy G, fun yy _ => yy = .int .i64 0] 171 (by kernel_rfl) (by kernel_rfl) rfl rfl (RK.step ⟨Below.refl _ _, R3⟩ (Below.refl _ _).drew) ?_ ?_
            · refine ⟨⟨fun _ _ _ h _ => h, fun a' W K hC hd hf hK => ?_⟩, ⟨fun _ _ _ h _ => h, fun a' W K hC hd hf hK => ?_⟩, ⟨fun _ _ _ h _ => h, fun a' W K hC hd hf hK => ?_⟩, ⟨fun _ _ _ h _ => h, fun a' W K hC hd hf hK => ?_⟩, ⟨fun _ _ _ h _ => h, fun a' W K hC hd hf hK => ?_⟩, ⟨fun _ _ _ h _ => h, fun a' W K hC hd hf hK => ?_⟩, ⟨fun _ _ _ h hb => by obtain ⟨v, e, hl⟩ := h; exact ⟨v, e, own_keep hl hb⟩, fun a' W K hC hd hf hK => ?_⟩, ⟨fun _ _ _ h hb => by obtain ⟨v, e, hl⟩ := h; exact ⟨v, e, own_keep hl hb⟩, fun a' W K hC hd hf hK => ?_⟩, ⟨fun _ _ _ h hb => own_keep h hb, fun a' W K hC hd hf hK => ?_⟩, ⟨fun _ _ _ h _ => h, fun a' W K hC hd hf hK => ?_⟩, ⟨fun _ _ _ h hb => own_keep h hb, fun a' W K hC hd hf hK => ?_⟩, ⟨fun _ _ _ h _ => h, fun a' W K hC hd hf hK => ?_⟩, trivial⟩
              · refine op_plain rfl ?_
                have f2 : a'.tmps[2]?.getD undef = .pointer (some ⟨w.heap.size, 0, none⟩) := (hf.out 2 (by kernel_rfl)).trans (by simp)
                obtain ⟨_, ⟨u1, u2, u3⟩, _⟩ := hC.2.2.1.all
                go_simp
                exact hK.out _ _ hC (Below.refl _ _) rfl
              · refine op_plain rfl ?_
                have f8 : a'.tmps[8]?.getD undef = .slice qf F.length cf := (hf.out 8 (by kernel_rfl)).trans (by simp)
                go_simp
                exact hK.out _ _ hC (Below.refl _ _) rfl
              · refine op_plain rfl ?_
                have f9 : a'.tmps[9]?.getD undef = .slice (some ⟨gt, 0, none⟩) T.length ct := (hf.out 9 (by kernel_rfl)).trans (by simp)
                go_simp
                exact hK.out _ _ hC (Below.refl _ _) rfl
              · refine op_plain rfl ?_
                have f12 : a'.tmps[12]?.getD undef = .int .i64 (kk : Nat) := (hf.out 12 (by kernel_rfl)).trans (by simp)
                go_simp
                exact hK.out _ _ hC (Below.refl _ _) rfl
              · refine op_plain rfl ?_
                have d67 : a'.tmps[67]?.getD undef = .slice (some ⟨gt, 0, none⟩) T.length ct := hd.out 2 67 (by kernel_rfl) rfl
                have d68 : a'.tmps[68]?.getD undef = .int .i64 (kk : Nat) := hd.out 3 68 (by kernel_rfl) rfl
                go_simp
                exact hK.out _ _ hC (Below.refl _ _) rfl
              · refine op_plain rfl ?_
                have d69 : a'.tmps[69]?.getD undef = .pointer (some ⟨gt, kk * 3, none⟩) := hd.out 4 69 (by kernel_rfl) rfl
                obtain ⟨_, _, eb, _, u1, u2, u3⟩ := TX.out _ hC.2.2.2.2.1
                cases eb
                simp only [Nat.zero_add] at u1 u2 u3
                go_simp
                exact hK.out _ _ hC (Below.refl _ _) rfl
              · refine op_plain rfl ?_
                have d65 : a'.tmps[65]?.getD undef = Bv p := hd.out 0 65 (by kernel_rfl) rfl
                have d66 : a'.tmps[66]?.getD undef = .slice qf F.length cf := hd.out 1 66 (by kernel_rfl) rfl
                have d70 : a'.tmps[70]?.getD undef = Bv x := hd.out 5 70 (by kernel_rfl) rfl
                go_simp
                refine (GV.out W _ (own_lst hC.2.2.2.1)).mono ?_
                rintro e W2 ⟨vv, rfl, hbW, hO⟩
                exact hK.out _ _ (RK.step hC hbW) hbW ⟨vv, rfl, own_base hO hC.1.size⟩
              · refine op_plain rfl ?_
                have d71 := hd.out 6 71 (by kernel_rfl) rfl
                go_simp
                exact hK.out _ _ hC (Below.refl _ _) d71
              · refine op_plain rfl ?_
                have d64 := hd.out 7 64 (by kernel_rfl) rfl
                obtain ⟨vv, e64, hL⟩ := d64
                go_simp
                exact hK.out _ _ hC (Below.refl _ _) hL
              · refine op_plain rfl ?_
                have d64 := hd.out 7 64 (by kernel_rfl) rfl
                obtain ⟨vv, e64, hL⟩ := d64
                go_simp
                exact hK.out _ _ hC (Below.refl _ _) rfl
              · refine op_plain rfl ?_
                have d72 := hd.out 8 72 (by kernel_rfl) rfl
                go_simp
                exact hK.out _ _ hC (Below.refl _ _) d72
              · refine op_plain rfl ?_
                have d73 : a'.tmps[73]?.getD undef = .int .i64 0 := hd.out 9 73 (by kernel_rfl) rfl
                go_simp
                exact hK.out _ _ hC (Below.refl _ _) rfl
            · intro vs W4 hC hR
              have q0 : vs 0 = Bv p := hR.out 0 (by decide)
              have q1 : vs 1 = .slice qf F.length cf := hR.out 1 (by decide)
              have q2 : vs 2 = .slice (some ⟨gt, 0, none⟩) T.length ct := hR.out 2 (by decide)
              have q3 : vs 3 = .int .i64 (kk : Nat) := hR.out 3 (by decide)
              have q4 : vs 4 = .pointer (some ⟨gt, kk * 3, none⟩) := hR.out 4 (by decide)
              have q5 : vs 5 = Bv x := hR.out 5 (by decide)
              generalize hq6 : vs 6 = q6
              generalize hq7 : vs 7 = q7
              generalize hq8 : vs 8 = q8
              have q9 : vs 9 = .int .i64 0 := hR.out 9 (by decide)
              have hg0 := hR.out 10 (by decide)
              generalize hq10 : vs 10 = q10 at *
              change Own W4 w3.heap.size q10 G at hg0
              have q11 : vs 11 = .int .i64 0 := hR.out 11 (by decide)
              simp only [fillF, Act.put, List.setIfInBounds_toArray, List.set_cons_zero, List.set_cons_succ, Nat.reduceAdd, q0, q1, q2, q3, q4, q5, hq6, hq7, hq8, q9, hq10, q11]
              clear hR q0 q1 q2 q3 q4 q5 hq6 hq7 hq8 q9 hq10 q11
              obtain ⟨_, R4⟩ := hC
              have sepG : Sep q10 (.slice (some ⟨gt, 0, none⟩) T.length ct) := fun j e1 e2 => by
                have h1 := (hg0.lt j e1).1
                simp only [Value.ownBlock, Option.some.injEq] at e2
                omega
              have offG : q10.ownBlock ≠ some gt := fun e => by
                have h1 := (hg0.lt gt e).1
                omega
              have OG := own_base hg0 (show w.heap.size + 1 ≤ w3.heap.size by omega)
              have LG : ∃ pg cg, q10 = .slice pg G.length cg := lst_len (own_lst OG)
              clear R3 A0 GV hg0
              obtain ⟨_, _, eb, _, u0, u1, u2⟩ := TX.out _ R4.2.2.2.1
              cases eb
              obtain ⟨_, _, eb, _, v0, v1, v2⟩ := TY.out _ R4.2.2.2.1
              cases eb
              simp only [Nat.zero_add] at u0 u1 u2 v0 v1 v2
              have f0 := R4.2.2.2.1.frozenAt (kk * 3)
              have f1 := R4.2.2.2.1.frozenAt (kk * 3 + 1)
              have f2 := R4.2.2.2.1.frozenAt (kk * 3 + 2)
              have S0 : 0 ≤ (T.length : Int) - 1 := by omega
              have S1 : 1 ≤ (T.length : Int) := by omega
              have WS : IntKind.i64.wrap ((T.length : Int) - 1) = (T.length : Int) - 1 := IntWalk.i64_in _ ⟨by omega, by omega⟩
              have SL : (T.length : Int) - 1 < (T.length : Int) := by omega
              have SN : ((T.length : Int) - 1).toNat = T.length - 1 := by omega
              go_upto_region 19 with fail
              clear u0 u1 u2 v0 v1 v2 f0 f1 f2
              have O5 := own_cut (own_put R4.2.2.2.1 rfl hkk y) (by rw [List.length_set]) (m := T.length - 1) (by rw [List.length_set]; omega)
              rw [← DK.out] at O5
              have G5 := own_set (own_set (own_set OG (q := ⟨gt, kk * 3, none⟩) offG (.int .u64 (hi y.1 : Nat))) (q := ⟨gt, kk * 3 + 1, none⟩) offG (.int .u64 (lo y.1 : Nat))) (q := ⟨gt, kk * 3 + 2, none⟩) offG (.int .i64 y.2)
              have P5 := ((R4.2.1.set (q := ⟨gt, kk * 3, none⟩) (by simp only; omega) (.int .u64 (hi y.1 : Nat))).set (q := ⟨gt, kk * 3 + 1, none⟩) (by simp only; omega) (.int .u64 (lo y.1 : Nat))).set (q := ⟨gt, kk * 3 + 2, none⟩) (by simp only; omega) (.int .i64 y.2)
              have B5 := ((R4.1.setCell (p := ⟨gt, kk * 3, none⟩) (by simp only; omega) (.int .u64 (hi y.1 : Nat))).setCell (p := ⟨gt, kk * 3 + 1, none⟩) (by simp only; omega) (.int .u64 (lo y.1 : Nat))).setCell (p := ⟨gt, kk * 3 + 2, none⟩) (by simp only; omega) (.int .i64 y.2)
              generalize ((W4.setCell ⟨gt, kk * 3, none⟩ (.int .u64 (hi y.1 : Nat))).setCell ⟨gt, kk * 3 + 1, none⟩ (.int .u64 (lo y.1 : Nat))).setCell ⟨gt, kk * 3 + 2, none⟩ (.int .i64 y.2) = w5 at *
              have R5 : RI w p q10 G (.slice (some ⟨gt, 0, none⟩) (T.length - 1) ct) (dropK T kk) w5 := ⟨B5, P5, G5, O5, sepG⟩
              have nD := dropK_len T kk
              have AP := hide (apart_yes fp KG'.out (show G.length ≤ 100000 by omega) (show (dropK T kk).length ≤ 1000 by omega) w5 (own_lst R5.2.2.1) (own_lst R5.2.2.2.1))
              clear O5 G5 P5 B5 OG R4 TX TY DK
              have SC : T.length - 1 ≤ ct := by omega
              obtain ⟨z, ⟨x1, x2, x3⟩, _⟩ := R5.2.1.all
              go_wp2_with fail
              clear z x1 x2 x3
              refine AP.out.mono ?_
              rintro e w6 ⟨rfl, hb6⟩
              have R6 := R5.step hb6
              clear R5 hb6 AP
              go_wp2
              go_roundw
              case rel => exact ⟨k + 1, G, dropK T kk, by omega, hlt, by go_num, KG', by omega, by omega, R6⟩
              case measure => simp [intOf]; omega
          · go_cut [55] (fun s wx => s = .bool false ∧ w3 = wx)
            case first =>
              obtain ⟨z, b1, b2, b3⟩ := A0.all
              cases back with
              | false =>
                go_wp2_with fail
                go_meet
                exact ⟨rfl, rfl⟩
              | true =>
                have T0 : ¬ 0 < T.length := fun h => hbk ⟨rfl, h⟩
                clear hbk
                go_wp2_with fail
                go_meet
                exact ⟨rfl, rfl⟩
            obtain ⟨rfl, rfl⟩ := hcut
            have TK := hide (fun W v (H : Lst v F W) => take_any (bits := bits) fp fFT.out.1 (show F.length ≤ 100000 by omega) W H)
            obtain ⟨z, b1, b2, b3⟩ := A0.all
            obtain ⟨zp, ⟨x1, x2, x3⟩, _⟩ := R3.2.1.all
            clear hbk ia ib
            by_cases c1 : bits < p.2
            · rw [take_bad (Or.inr (Or.inl c1))] at TK
              go_wp2_with fail
              clear z b1 b2 b3 x1 x2 x3 zp
              refine (TK.out _ _ (own_lst R3.2.2.1)).mono ?_
              rintro e w4 ⟨v4, rfl, hb4, O4⟩
              have R4 := R3.step hb4
              have A4 := A0.step hb4
              obtain ⟨z4, d1, d2, d3⟩ := A4.all
              obtain ⟨zp, ⟨k1, k2, k3⟩, _⟩ := R4.2.1.all
              clear R3 A0 hb4 O4 TK
              go_wp2
              go_roundw
              case rel => exact ⟨k + 1, F, T, by omega, hlt, by go_num, KP, by omega, by omega, R4.step (below_alloc _ _)⟩
              case measure => simp [intOf]; omega
            by_cases c2 : 128 < bits
            · rw [take_bad (Or.inr (Or.inr c2))] at TK
              go_wp2_with fail
              clear z b1 b2 b3 x1 x2 x3 zp
              refine (TK.out _ _ (own_lst R3.2.2.1)).mono ?_
              rintro e w4 ⟨v4, rfl, hb4, O4⟩
              have R4 := R3.step hb4
              have A4 := A0.step hb4
              obtain ⟨z4, d1, d2, d3⟩ := A4.all
              obtain ⟨zp, ⟨k1, k2, k3⟩, _⟩ := R4.2.1.all
              clear R3 A0 hb4 O4 TK
              go_wp2
              go_roundw
              case rel => exact ⟨k + 1, F, T, by omega, hlt, by go_num, KP, by omega, by omega, R4.step (below_alloc _ _)⟩
              case measure => simp [intOf]; omega
            have FT := hide (fun W v (H : Lst v F W) => fits_any (show F.length ≤ 1000000 by omega) bits W H)
            rw [fits_best] at FT
            cases hb : bestL F bits F.length with
            | none =>
              rw [take_none KP.out.good (by omega) (by omega) hb] at TK
              rw [hb] at FT
              simp only [Option.isSome_none] at FT
              clear hb
              go_wp2_with fail
              clear z b1 b2 b3 x1 x2 x3 zp
              refine (TK.out _ _ (own_lst R3.2.2.1)).mono ?_
              rintro e w4 ⟨v4, rfl, hb4, O4⟩
              have R4 := R3.step hb4
              have A4 := A0.step hb4
              obtain ⟨z4, d1, d2, d3⟩ := A4.all
              obtain ⟨zp, ⟨k1, k2, k3⟩, _⟩ := R4.2.1.all
              clear R3 A0 hb4 O4 TK
              go_wp2_with fail
              refine (FT.out _ _ (own_lst (R4.step (below_alloc w4 _)).2.2.1)).mono ?_
              rintro e w5 ⟨rfl, hb5⟩
              have R5 := (R4.step (below_alloc w4 _)).step hb5
              clear R4 A4 hb5 FT z4 d1 d2 d3 zp k1 k2 k3
              go_wp2
              go_roundw
              case rel => exact ⟨k + 1, F, T, by omega, hlt, by go_num, KP, by omega, by omega, R5⟩
              case measure => simp [intOf]; omega
            | some j =>
              obtain ⟨G, x, hG, rfl, cx, KG, lG⟩ := keeps_take KP.out (show p.2 ≤ bits by omega) (show bits ≤ 128 by omega) hb
              rw [hG] at TK
              rw [hb] at FT
              simp only [Option.isSome_some] at FT
              have KG' := hide KG
              have fx := cov_fit fp.1 cx
              have CV := hide (fun W => via (covers_any (p := p.1) fx.1 p.2 x.2 W) (v' := .bool true) (by rw [show coversS p.1 p.2 x.1 x.2 = true from cx]))
              clear hb hG KG cx
              go_wp2_with fail
              clear z b1 b2 b3 x1 x2 x3 zp
              refine (TK.out _ _ (own_lst R3.2.2.1)).mono ?_
              rintro e w4 ⟨vg, rfl, hb4, O4⟩
              have bA := below_alloc w4 (.cells #[.int .u64 (hi x.1 : Nat), .int .u64 (lo x.1 : Nat), .int .i64 x.2] 26)
              have R4 := R3.step hb4
              have A4 := A0.step hb4
              obtain ⟨z4, d1, d2, d3⟩ := A4.all
              obtain ⟨zp, ⟨k1, k2, k3⟩, _⟩ := R4.2.1.all
              have R5 := R4.step bA
              have A5 := A4.step bA
              have Q5 := box_new w4 x 26
              have O5 := own_keep O4 bA
              have N5 := R5.1.size
              clear A0 hb4 O4 TK
              go_wp2_with fail
              clear z4 d1 d2 d3 zp k1 k2 k3 R4 A4 bA
              generalize w4.alloc (.cells #[.int .u64 (hi x.1 : Nat), .int .u64 (lo x.1 : Nat), .int .i64 x.2] 26) = w5 at *
              generalize w4.heap.size = gq at *
              refine (FT.out _ _ (own_lst R5.2.2.1)).mono ?_
              rintro e w6 ⟨rfl, hb6⟩
              have R6 := R5.step hb6
              have A6 := A5.step hb6
              have Q6 := Q5.step hb6
              have O6 := own_keep O5 hb6
              clear R5 A5 Q5 O5 hb6 FT
              obtain ⟨z4, d1, d2, d3⟩ := A6.all
              obtain ⟨zp, ⟨k1, k2, k3⟩, _⟩ := R6.2.1.all
              obtain ⟨zq, ⟨m1, m2, m3⟩, _⟩ := Q6.all
              have XX : (x.2 != x.2) = false := by simp
              go_wp2_with fail
              clear z4 d1 d2 d3 zp k1 k2 k3 zq m1 m2 m3 XX
              refine (CV.out _).mono ?_
              rintro e w7 ⟨rfl, hb7⟩
              have R7 := R6.step hb7
              have Q7 := Q6.step hb7
              have O7 := own_keep O6 hb7
              clear R6 A6 Q6 O6 hb7 CV
              have bA := below_alloc w7 (.cells #[.int .u64 (hi x.1 : Nat), .int .u64 (lo x.1 : Nat), .int .i64 x.2] 26)
              have N1 := row_one (box_new w7 x 26)
              have R8 := R7.step bA
              have O8 := own_keep O7 bA
              have BS := R8.1.size
              have GS := R7.2.1.1
              obtain ⟨zq, ⟨m1, m2, m3⟩, _⟩ := Q7.all
              have vtl := fun j e => (R3.2.2.2.1.lt j e).2
              have N8 : w.heap.size + 1 ≤ (w7.alloc (.cells #[.int .u64 (hi x.1 : Nat), .int .u64 (lo x.1 : Nat), .int .i64 x.2] 26)).heap.size := by rw [World.size_alloc]; omega
              go_upto_region 31 with (at_builtin; refine wpList_append_one rfl (.tmp 141) (.tmp 143) rfl (w.heap.size + 1) _ T rfl R8.2.2.2.1 w7.heap.size 1 x rfl N1 (by omega) N8 ?_; intro gn cn w9 O9 B9 hg9 at9)
              clear zq m1 m2 m3
              have n3 : w.heap.size < w3.heap.size := R3.2.1.1
              have hg9' : World.grownBy (w7.alloc (.cells #[.int .u64 (hi x.1 : Nat), .int .u64 (lo x.1 : Nat), .int .i64 x.2] 26)) w9 (Value.slice qt T.length ct).ownBlock := hg9
              have at9' : (Value.slice qt T.length ct).ownBlock = some gn ∨ (w7.alloc (.cells #[.int .u64 (hi x.1 : Nat), .int .u64 (lo x.1 : Nat), .int .i64 x.2] 26)).heap.size ≤ gn := at9
              have G9 := O8.kept hg9' (by
                rcases h : vg.ownBlock with _ | j
                · exact Or.inl rfl
                · refine Or.inr (fun e => ?_)
                  have h1 := (O8.lt j h).1
                  have h2 := vtl j e.symm
                  omega)
              have S9 : Sep vg (.slice (some ⟨gn, 0, none⟩) (T.length + 1) cn) := fun j e1 e2 => by
                have h1 := O8.lt j e1
                simp only [Value.ownBlock, Option.some.injEq] at e2
                subst e2
                rcases at9' with h | h
                · have := vtl _ h; omega
                · omega
              have P9 := Box.below R8.2.1 (show w.heap.size < w.heap.size + 1 by omega) B9
              have BL9 := R8.1.trans (B9.mono (Nat.le_succ _))
              have R9 : RI w p vg G (.slice (some ⟨gn, 0, none⟩) (T.length + 1) cn) (T ++ [x]) w9 := ⟨BL9, P9, own_base G9 (by omega), O9, S9⟩
              clear G9 S9 P9 BL9 O9 B9 hg9 hg9' at9 at9' R7 R8 O7 O8 Q7 N1 bA BS GS vtl N8 R3
              have nTx : (T ++ [x]).length = T.length + 1 := by simp
              have AP := hide (apart_yes fp KG'.out (show G.length ≤ 100000 by omega) (show (T ++ [x]).length ≤ 1000 by omega) w9 (own_lst R9.2.2.1) (own_lst R9.2.2.2.1))
              obtain ⟨z, ⟨x1, x2, x3⟩, _⟩ := R9.2.1.all
              go_wp2_with fail
              clear z x1 x2 x3
              refine AP.out.mono ?_
              rintro e wa ⟨rfl, hba⟩
              have Ra := R9.step hba
              clear R9 hba AP
              go_wp2
              go_roundw
              case rel => exact ⟨k + 1, G, T ++ [x], by omega, hlt, by go_num, KG', by omega, by omega, Ra⟩
              case measure => simp [intOf]; omega
        · have L0 : RelL w p 81 (.slice qf F.length cf) (.slice qt T.length ct) wr := ⟨F, T, KP, by omega, by omega, HR.1, HR.2.1, own_lst HR.2.2.1, own_lst HR.2.2.2.1⟩
          clear HR KP nF nT fFT kl
          go_wp2_with fail
          clear hlt
          go_loopg [8, 9] 81 (fun kx s8 s9 wr => RelL w p kx s8 s9 wr)
          case atStart => exact L0
          case round =>
            clear L0
            obtain ⟨F, T, KP, nFT, nT, HB⟩ := hrel
            obtain ⟨fF, fT⟩ := keeps_fit fp.1 KP.out
            obtain ⟨qf, cf, rfl⟩ := lst_len HB.2.2.1
            obtain ⟨qt, ct, rfl⟩ := lst_len HB.2.2.2
            by_cases hT : 0 < T.length
            · obtain ⟨x, hx⟩ := get_some hT
              have XH := hide hx
              have fx := fT x (List.mem_of_getElem? hx)
              have KP' := KP.out
              rw [drop_one hx] at KP'
              obtain ⟨G, hG, KG, lG⟩ := keeps_give KP'
              have KG' := hide KG
              have GV := hide (fun W v (H : Lst v F W) => give_any fp fx fF (show F.length ≤ 100000 by omega) W H)
              rw [hG] at GV
              obtain ⟨bt, ot, rfl, _⟩ := lst_at HB.2.2.2 hx
              obtain ⟨_, ct1, ct2, _⟩ := lst_cap HB.2.2.2
              clear hx KP KP' KG hG fF fT
              go_upto_region 34 with fail
              refine wp_region_rel (HL w p (.slice qf F.length cf) F (.slice (some ⟨bt, ot, none⟩) T.length ct) T) [some 154, some 155, some 156, some 157, some 158, some 159, some 153, some 160, some 161, some 18, some 19] [fun yy _ => yy = Bv p, fun yy _ => yy = .slice qf F.length cf, fun yy _ => yy = .slice (some ⟨bt, ot, none⟩) T.length ct, fun yy _ => yy = .pointer (some ⟨bt, ot, none⟩), fun yy _ => yy = Bv x, fun yy W => ∃ v, yy = .tuple #[v, .int .i64 0] ∧ Lst v G W, fun yy W => ∃ v, yy = .tuple #[v, .int .i64 0] ∧ Lst v G W, fun yy W => Lst yy G W, fun yy _ => yy = .int .i64 0, fun yy W => Lst yy G W, fun yy _ => yy = .int .i64 0] 171 (by kernel_rfl) (by kernel_rfl) rfl rfl (HB.step (Below.refl _ _).drew) ?_ ?_
              · refine ⟨⟨fun _ _ _ h _ => h, fun a' W K hC hd hf hK => ?_⟩, ⟨fun _ _ _ h _ => h, fun a' W K hC hd hf hK => ?_⟩, ⟨fun _ _ _ h _ => h, fun a' W K hC hd hf hK => ?_⟩, ⟨fun _ _ _ h _ => h, fun a' W K hC hd hf hK => ?_⟩, ⟨fun _ _ _ h _ => h, fun a' W K hC hd hf hK => ?_⟩, ⟨fun _ _ _ h hb => by obtain ⟨v, e, hl⟩ := h; exact ⟨v, e, hl.step hb⟩, fun a' W K hC hd hf hK => ?_⟩, ⟨fun _ _ _ h hb => by obtain ⟨v, e, hl⟩ := h; exact ⟨v, e, hl.step hb⟩, fun a' W K hC hd hf hK => ?_⟩, ⟨fun _ _ _ h hb => h.step hb, fun a' W K hC hd hf hK => ?_⟩, ⟨fun _ _ _ h _ => h, fun a' W K hC hd hf hK => ?_⟩, ⟨fun _ _ _ h hb => h.step hb, fun a' W K hC hd hf hK => ?_⟩, ⟨fun _ _ _ h _ => h, fun a' W K hC hd hf hK => ?_⟩, trivial⟩
                · refine op_plain rfl ?_
                  have f2 : a'.tmps[2]?.getD undef = .pointer (some ⟨w.heap.size, 0, none⟩) := (hf.out 2 (by kernel_rfl)).trans (by simp)
                  obtain ⟨_, ⟨u1, u2, u3⟩, _⟩ := hC.2.1.all
                  go_simp
                  exact hK.out _ _ hC (Below.refl _ _) rfl
                · refine op_plain rfl ?_
                  have f8 : a'.tmps[8]?.getD undef = .slice qf F.length cf := (hf.out 8 (by kernel_rfl)).trans (by simp)
                  go_simp
                  exact hK.out _ _ hC (Below.refl _ _) rfl
                · refine op_plain rfl ?_
                  have f9 : a'.tmps[9]?.getD undef = .slice (some ⟨bt, ot, none⟩) T.length ct := (hf.out 9 (by kernel_rfl)).trans (by simp)
                  go_simp
                  exact hK.out _ _ hC (Below.refl _ _) rfl
                · refine op_plain rfl ?_
                  have d156 : a'.tmps[156]?.getD undef = .slice (some ⟨bt, ot, none⟩) T.length ct := hd.out 2 156 (by kernel_rfl) rfl
                  go_simp
                  exact hK.out _ _ hC (Below.refl _ _) rfl
                · refine op_plain rfl ?_
                  have d157 : a'.tmps[157]?.getD undef = .pointer (some ⟨bt, ot, none⟩) := hd.out 3 157 (by kernel_rfl) rfl
                  obtain ⟨_, _, eb, _, u1, u2, u3⟩ := lst_at hC.2.2.2 XH.out
                  cases eb
                  simp only [Nat.zero_mul, Nat.add_zero] at u1 u2 u3
                  go_simp
                  exact hK.out _ _ hC (Below.refl _ _) rfl
                · refine op_plain rfl ?_
                  have d154 : a'.tmps[154]?.getD undef = Bv p := hd.out 0 154 (by kernel_rfl) rfl
                  have d155 : a'.tmps[155]?.getD undef = .slice qf F.length cf := hd.out 1 155 (by kernel_rfl) rfl
                  have d158 : a'.tmps[158]?.getD undef = Bv x := hd.out 4 158 (by kernel_rfl) rfl
                  go_simp
                  refine (GV.out W _ hC.2.2.1).mono ?_
                  rintro e W2 ⟨vv, rfl, hbW, hO⟩
                  exact hK.out _ _ (HL.step hC hbW) hbW ⟨vv, rfl, own_lst hO⟩
                · refine op_plain rfl ?_
                  have d159 := hd.out 5 159 (by kernel_rfl) rfl
                  go_simp
                  exact hK.out _ _ hC (Below.refl _ _) d159
                · refine op_plain rfl ?_
                  have d153 := hd.out 6 153 (by kernel_rfl) rfl
                  obtain ⟨vv, e153, hL⟩ := d153
                  go_simp
                  exact hK.out _ _ hC (Below.refl _ _) hL
                · refine op_plain rfl ?_
                  have d153 := hd.out 6 153 (by kernel_rfl) rfl
                  obtain ⟨vv, e153, hL⟩ := d153
                  go_simp
                  exact hK.out _ _ hC (Below.refl _ _) rfl
                · refine op_plain rfl ?_
                  have d160 := hd.out 7 160 (by kernel_rfl) rfl
                  go_simp
                  exact hK.out _ _ hC (Below.refl _ _) d160
                · refine op_plain rfl ?_
                  have d161 : a'.tmps[161]?.getD undef = .int .i64 0 := hd.out 8 161 (by kernel_rfl) rfl
                  go_simp
                  exact hK.out _ _ hC (Below.refl _ _) rfl
              · intro vs W4 hC hR
                have q0 : vs 0 = Bv p := hR.out 0 (by decide)
                have q1 : vs 1 = .slice qf F.length cf := hR.out 1 (by decide)
                have q2 : vs 2 = .slice (some ⟨bt, ot, none⟩) T.length ct := hR.out 2 (by decide)
                have q3 : vs 3 = .pointer (some ⟨bt, ot, none⟩) := hR.out 3 (by decide)
                have q4 : vs 4 = Bv x := hR.out 4 (by decide)
                generalize hq5 : vs 5 = q5
                generalize hq6 : vs 6 = q6
                generalize hq7 : vs 7 = q7
                have q8 : vs 8 = .int .i64 0 := hR.out 8 (by decide)
                have hg0 := hR.out 9 (by decide)
                generalize hq9 : vs 9 = q9 at *
                change Lst q9 G W4 at hg0
                have q10 : vs 10 = .int .i64 0 := hR.out 10 (by decide)
                simp only [fillF, Act.put, List.setIfInBounds_toArray, List.set_cons_zero, List.set_cons_succ, Nat.reduceAdd, q0, q1, q2, q3, q4, hq5, hq6, hq7, q8, hq9, q10]
                clear hR q0 q1 q2 q3 q4 hq5 hq6 hq7 q8 hq9 q10
                have LN := hide (lst_dropV (i := 1) hC.2.2.2 (by omega))
                clear GV HB XH
                have J1 : 1 ≤ T.length := by omega
                have J2 : 1 ≤ ct := by omega
                rcases Nat.lt_or_ge 1 ct with hc2 | hc2
                · have LN2 : Lst (.slice (some ⟨bt, ot + 3, none⟩) (T.length - 1) (ct - 1)) (T.drop 1) W4 := by
                    have e := LN.out
                    unfold dropV at e
                    rw [if_neg (by omega), Nat.one_mul] at e
                    exact e
                  have NE : ¬ ct = 1 := by omega
                  have LH := hide LN2
                  have GH := hide hg0
                  have HH4 := hide hC
                  clear LN LN2 hg0 hC
                  go_wp2
                  go_roundg T.length
                  case rel => exact ⟨G, T.drop 1, KG', by rw [List.length_drop]; omega, by rw [List.length_drop]; omega, HH4.out.1, HH4.out.2.1, GH.out, LH.out⟩
                  case measure => omega
                · obtain rfl : ct = 1 := by omega
                  have LN2 : Lst (.slice (some ⟨bt, ot, none⟩) 0 0) (T.drop 1) W4 := by
                    have e := LN.out
                    unfold dropV at e
                    rw [if_pos rfl, Nat.sub_self, show T.length - 1 = 0 by omega] at e
                    exact e
                  have LH := hide LN2
                  have GH := hide hg0
                  have HH4 := hide hC
                  clear LN LN2 hg0 hC
                  go_wp2
                  go_roundg T.length
                  case rel => exact ⟨G, T.drop 1, KG', by rw [List.length_drop]; omega, by rw [List.length_drop]; omega, HH4.out.1, HH4.out.2.1, GH.out, LH.out⟩
                  case measure => omega
            · have T0 : T = [] := List.length_eq_zero_iff.1 (by omega)
              have KE := KP.out
              rw [T0] at KE
              have FE := keeps_end KE
              have SY := hide (fun W v u (H : Lst v F W) (K : Lst u [p] W) => same_yes FE (show F.length ≤ 1000000 by omega) W H K)
              clear T0 KE FE fF fT KP
              obtain ⟨z, ⟨x1, x2, x3⟩, _⟩ := HB.2.1.all
              go_wp2_with fail
              clear z x1 x2 x3
              refine (SY.out _ _ _ (HB.2.2.1.step (below_alloc wr _)) (lst_one (box_new wr p 26))).mono ?_
              rintro e w9 ⟨rfl, hb9⟩
              have BE := chain (chain HB.1 (below_alloc wr _)) hb9
              clear HB hb9 SY
              go_wp2
              go_ret
              exact ⟨rfl, BE⟩
      · have L0 : RelL w p 81 (.slice qf F.length cf) (.slice qt T.length ct) wr := ⟨F, T, KP, by omega, by omega, HR.1, HR.2.1, own_lst HR.2.2.1, own_lst HR.2.2.2.1⟩
        clear HR KP nF nT fFT kl
        go_wp2_with fail
        clear hlt
        go_loopg [8, 9] 81 (fun kx s8 s9 wr => RelL w p kx s8 s9 wr)
        case atStart => exact L0
        case round =>
          clear L0
          obtain ⟨F, T, KP, nFT, nT, HB⟩ := hrel
          obtain ⟨fF, fT⟩ := keeps_fit fp.1 KP.out
          obtain ⟨qf, cf, rfl⟩ := lst_len HB.2.2.1
          obtain ⟨qt, ct, rfl⟩ := lst_len HB.2.2.2
          by_cases hT : 0 < T.length
          · obtain ⟨x, hx⟩ := get_some hT
            have XH := hide hx
            have fx := fT x (List.mem_of_getElem? hx)
            have KP' := KP.out
            rw [drop_one hx] at KP'
            obtain ⟨G, hG, KG, lG⟩ := keeps_give KP'
            have KG' := hide KG
            have GV := hide (fun W v (H : Lst v F W) => give_any fp fx fF (show F.length ≤ 100000 by omega) W H)
            rw [hG] at GV
            obtain ⟨bt, ot, rfl, _⟩ := lst_at HB.2.2.2 hx
            obtain ⟨_, ct1, ct2, _⟩ := lst_cap HB.2.2.2
            clear hx KP KP' KG hG fF fT
            go_upto_region 34 with fail
            refine wp_region_rel (HL w p (.slice qf F.length cf) F (.slice (some ⟨bt, ot, none⟩) T.length ct) T) [some 154, some 155, some 156, some 157, some 158, some 159, some 153, some 160, some 161, some 18, some 19] [fun yy _ => yy = Bv p, fun yy _ => yy = .slice qf F.length cf, fun yy _ => yy = .slice (some ⟨bt, ot, none⟩) T.length ct, fun yy _ => yy = .pointer (some ⟨bt, ot, none⟩), fun yy _ => yy = Bv x, fun yy W => ∃ v, yy = .tuple #[v, .int .i64 0] ∧ Lst v G W, fun yy W => ∃ v, yy = .tuple #[v, .int .i64 0] ∧ Lst v G W, fun yy W => Lst yy G W, fun yy _ => yy = .int .i64 0, fun yy W => Lst yy G W, fun yy _ => yy = .int .i64 0] 171 (by kernel_rfl) (by kernel_rfl) rfl rfl (HB.step (Below.refl _ _).drew) ?_ ?_
            · refine ⟨⟨fun _ _ _ h _ => h, fun a' W K hC hd hf hK => ?_⟩, ⟨fun _ _ _ h _ => h, fun a' W K hC hd hf hK => ?_⟩, ⟨fun _ _ _ h _ => h, fun a' W K hC hd hf hK => ?_⟩, ⟨fun _ _ _ h _ => h, fun a' W K hC hd hf hK => ?_⟩, ⟨fun _ _ _ h _ => h, fun a' W K hC hd hf hK => ?_⟩, ⟨fun _ _ _ h hb => by obtain ⟨v, e, hl⟩ := h; exact ⟨v, e, hl.step hb⟩, fun a' W K hC hd hf hK => ?_⟩, ⟨fun _ _ _ h hb => by obtain ⟨v, e, hl⟩ := h; exact ⟨v, e, hl.step hb⟩, fun a' W K hC hd hf hK => ?_⟩, ⟨fun _ _ _ h hb => h.step hb, fun a' W K hC hd hf hK => ?_⟩, ⟨fun _ _ _ h _ => h, fun a' W K hC hd hf hK => ?_⟩, ⟨fun _ _ _ h hb => h.step hb, fun a' W K hC hd hf hK => ?_⟩, ⟨fun _ _ _ h _ => h, fun a' W K hC hd hf hK => ?_⟩, trivial⟩
              · refine op_plain rfl ?_
                have f2 : a'.tmps[2]?.getD undef = .pointer (some ⟨w.heap.size, 0, none⟩) := (hf.out 2 (by kernel_rfl)).trans (by simp)
                obtain ⟨_, ⟨u1, u2, u3⟩, _⟩ := hC.2.1.all
                go_simp
                exact hK.out _ _ hC (Below.refl _ _) rfl
              · refine op_plain rfl ?_
                have f8 : a'.tmps[8]?.getD undef = .slice qf F.length cf := (hf.out 8 (by kernel_rfl)).trans (by simp)
                go_simp
                exact hK.out _ _ hC (Below.refl _ _) rfl
              · refine op_plain rfl ?_
                have f9 : a'.tmps[9]?.getD undef = .slice (some ⟨bt, ot, none⟩) T.length ct := (hf.out 9 (by kernel_rfl)).trans (by simp)
                go_simp
                exact hK.out _ _ hC (Below.refl _ _) rfl
              · refine op_plain rfl ?_
                have d156 : a'.tmps[156]?.getD undef = .slice (some ⟨bt, ot, none⟩) T.length ct := hd.out 2 156 (by kernel_rfl) rfl
                go_simp
                exact hK.out _ _ hC (Below.refl _ _) rfl
              · refine op_plain rfl ?_
                have d157 : a'.tmps[157]?.getD undef = .pointer (some ⟨bt, ot, none⟩) := hd.out 3 157 (by kernel_rfl) rfl
                obtain ⟨_, _, eb, _, u1, u2, u3⟩ := lst_at hC.2.2.2 XH.out
                cases eb
                simp only [Nat.zero_mul, Nat.add_zero] at u1 u2 u3
                go_simp
                exact hK.out _ _ hC (Below.refl _ _) rfl
              · refine op_plain rfl ?_
                have d154 : a'.tmps[154]?.getD undef = Bv p := hd.out 0 154 (by kernel_rfl) rfl
                have d155 : a'.tmps[155]?.getD undef = .slice qf F.length cf := hd.out 1 155 (by kernel_rfl) rfl
                have d158 : a'.tmps[158]?.getD undef = Bv x := hd.out 4 158 (by kernel_rfl) rfl
                go_simp
                refine (GV.out W _ hC.2.2.1).mono ?_
                rintro e W2 ⟨vv, rfl, hbW, hO⟩
                exact hK.out _ _ (HL.step hC hbW) hbW ⟨vv, rfl, own_lst hO⟩
              · refine op_plain rfl ?_
                have d159 := hd.out 5 159 (by kernel_rfl) rfl
                go_simp
                exact hK.out _ _ hC (Below.refl _ _) d159
              · refine op_plain rfl ?_
                have d153 := hd.out 6 153 (by kernel_rfl) rfl
                obtain ⟨vv, e153, hL⟩ := d153
                go_simp
                exact hK.out _ _ hC (Below.refl _ _) hL
              · refine op_plain rfl ?_
                have d153 := hd.out 6 153 (by kernel_rfl) rfl
                obtain ⟨vv, e153, hL⟩ := d153
                go_simp
                exact hK.out _ _ hC (Below.refl _ _) rfl
              · refine op_plain rfl ?_
                have d160 := hd.out 7 160 (by kernel_rfl) rfl
                go_simp
                exact hK.out _ _ hC (Below.refl _ _) d160
              · refine op_plain rfl ?_
                have d161 : a'.tmps[161]?.getD undef = .int .i64 0 := hd.out 8 161 (by kernel_rfl) rfl
                go_simp
                exact hK.out _ _ hC (Below.refl _ _) rfl
            · intro vs W4 hC hR
              have q0 : vs 0 = Bv p := hR.out 0 (by decide)
              have q1 : vs 1 = .slice qf F.length cf := hR.out 1 (by decide)
              have q2 : vs 2 = .slice (some ⟨bt, ot, none⟩) T.length ct := hR.out 2 (by decide)
              have q3 : vs 3 = .pointer (some ⟨bt, ot, none⟩) := hR.out 3 (by decide)
              have q4 : vs 4 = Bv x := hR.out 4 (by decide)
              generalize hq5 : vs 5 = q5
              generalize hq6 : vs 6 = q6
              generalize hq7 : vs 7 = q7
              have q8 : vs 8 = .int .i64 0 := hR.out 8 (by decide)
              have hg0 := hR.out 9 (by decide)
              generalize hq9 : vs 9 = q9 at *
              change Lst q9 G W4 at hg0
              have q10 : vs 10 = .int .i64 0 := hR.out 10 (by decide)
              simp only [fillF, Act.put, List.setIfInBounds_toArray, List.set_cons_zero, List.set_cons_succ, Nat.reduceAdd, q0, q1, q2, q3, q4, hq5, hq6, hq7, q8, hq9, q10]
              clear hR q0 q1 q2 q3 q4 hq5 hq6 hq7 q8 hq9 q10
              have LN := hide (lst_dropV (i := 1) hC.2.2.2 (by omega))
              clear GV HB XH
              have J1 : 1 ≤ T.length := by omega
              have J2 : 1 ≤ ct := by omega
              rcases Nat.lt_or_ge 1 ct with hc2 | hc2
              · have LN2 : Lst (.slice (some ⟨bt, ot + 3, none⟩) (T.length - 1) (ct - 1)) (T.drop 1) W4 := by
                  have e := LN.out
                  unfold dropV at e
                  rw [if_neg (by omega), Nat.one_mul] at e
                  exact e
                have NE : ¬ ct = 1 := by omega
                have LH := hide LN2
                have GH := hide hg0
                have HH4 := hide hC
                clear LN LN2 hg0 hC
                go_wp2
                go_roundg T.length
                case rel => exact ⟨G, T.drop 1, KG', by rw [List.length_drop]; omega, by rw [List.length_drop]; omega, HH4.out.1, HH4.out.2.1, GH.out, LH.out⟩
                case measure => omega
              · obtain rfl : ct = 1 := by omega
                have LN2 : Lst (.slice (some ⟨bt, ot, none⟩) 0 0) (T.drop 1) W4 := by
                  have e := LN.out
                  unfold dropV at e
                  rw [if_pos rfl, Nat.sub_self, show T.length - 1 = 0 by omega] at e
                  exact e
                have LH := hide LN2
                have GH := hide hg0
                have HH4 := hide hC
                clear LN LN2 hg0 hC
                go_wp2
                go_roundg T.length
                case rel => exact ⟨G, T.drop 1, KG', by rw [List.length_drop]; omega, by rw [List.length_drop]; omega, HH4.out.1, HH4.out.2.1, GH.out, LH.out⟩
                case measure => omega
          · have T0 : T = [] := List.length_eq_zero_iff.1 (by omega)
            have KE := KP.out
            rw [T0] at KE
            have FE := keeps_end KE
            have SY := hide (fun W v u (H : Lst v F W) (K : Lst u [p] W) => same_yes FE (show F.length ≤ 1000000 by omega) W H K)
            clear T0 KE FE fF fT KP
            obtain ⟨z, ⟨x1, x2, x3⟩, _⟩ := HB.2.1.all
            go_wp2_with fail
            clear z x1 x2 x3
            refine (SY.out _ _ _ (HB.2.2.1.step (below_alloc wr _)) (lst_one (box_new wr p 26))).mono ?_
            rintro e w9 ⟨rfl, hb9⟩
            have BE := chain (chain HB.1 (below_alloc wr _)) hb9
            clear HB hb9 SY
            go_wp2
            go_ret
            exact ⟨rfl, BE⟩
end Go.Proofs.Ytpieddddckbfdaa
