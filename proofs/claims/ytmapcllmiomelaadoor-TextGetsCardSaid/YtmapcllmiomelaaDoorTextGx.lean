/-
  The contract of the document's own Get6. Condition: the text has at most 65536 bytes.
-/
import Derived.Test.YtmapcllmiomelaaDoorTextG7
import Derived.RegionTactic
import Derived.Laws.AppendOwn
import Derived.Laws.AppendOwnNone
namespace Go.Proofs.YtmapcllmiomelaaDoor
open Go.RowKit Go.Joins

def lenV : Value → Nat
  | .slice _ n _ => n
  | _ => 0
/-- what stands in y's row, and that it is not x's -/
def YF (p2 : Option Go.Addr) (t : List Nat) (vx : Value) (W : World) : Prop := 0 < t.length → ∃ ad : Go.Addr, p2 = some ad ∧ ad.block < W.heap.size ∧ vx.ownBlock ≠ some ad.block ∧ ∀ j u, (t.map u64V)[j]? = some u → W.cell? (ad.add j) = some u
theorem YF.alloc {p2 : Option Go.Addr} {t : List Nat} {vx : Value} {W : World} (h : YF p2 t vx W) (o : Obj) : YF p2 t vx (W.alloc o) := fun ht => by
  obtain ⟨ad, h1, h2, h3, h4⟩ := h ht
  exact ⟨ad, h1, by rw [World.size_alloc]; omega, h3, fun j u hj => keep_cell (below_alloc W o) (h4 j u hj)⟩
/-- the two words so far -/
def Wd (q : Nat) (x y : Nat) (W : World) : Prop := W.cell? ⟨q, 0, none⟩ = some (.int .u64 (x : Nat)) ∧ W.cell? ⟨q, 1, none⟩ = some (.int .u64 (y : Nat)) ∧ W.frozen? ⟨q, 0, none⟩ = false ∧ W.frozen? ⟨q, 1, none⟩ = false ∧ q < W.heap.size
theorem wd_new (W : World) (t : TypeId) : Wd W.heap.size 0 0 (W.alloc (.cells #[.int .u64 0, .int .u64 0] t)) := by
  refine ⟨?_, ?_, ?_, ?_, ?_⟩ <;> simp [go_sem]
theorem Wd.put {q x y : Nat} {W : World} (h : Wd q x y W) (x2 y2 : Nat) : Wd q x2 y2 ((W.setCell ⟨q, 0, none⟩ (.int .u64 (x2 : Nat))).setCell ⟨q, 1, none⟩ (.int .u64 (y2 : Nat))) := by
  obtain ⟨a, b, c, d, e⟩ := h
  refine ⟨?_, ?_, ?_, ?_, ?_⟩ <;> simp [go_sem, *]
theorem own_zero {W : World} {base n cap : Nat} {e : TypeId} {p : Option Go.Addr} {xs : List Value} (h : W.ownsRow base e 1 (.slice p n cap) n xs) (hn : 0 < n) : ∃ g, p = some ⟨g, 0, none⟩ := by
  rcases h.2 with ⟨e, _⟩ | ⟨g, c, cur, e, _⟩
  · cases e; omega
  · cases e; exact ⟨g, rfl⟩
theorem own_nil {W : World} {base n m cap : Nat} {e : TypeId} {p : Option Go.Addr} {xs : List Value} (h : W.ownsRow base e 1 (.slice p n cap) m xs) (hp : p = none) : cap = 0 := by
  rcases h.2 with ⟨e, _⟩ | ⟨g, c, cur, e, _⟩
  · cases e; rfl
  · cases e; cases hp
def X8 (l : List Nat) (k : Nat) : Nat := l.getD k 0
theorem x8_cell {W : World} {base g cap : Nat} {l : List Nat} (hl : l.length = 8) (h : W.ownsRow base 26 1 (.slice (some ⟨g, 0, none⟩) 8 cap) 8 (l.map u64V)) (k : Nat) (hk : k < 8) : W.cell? ⟨g, k, none⟩ = some (.int .u64 (X8 l k : Nat)) := by
  obtain ⟨p, c, hv, _, hc⟩ := own_form h
  obtain ⟨ad, hp, _, hcell⟩ := hc (by omega)
  have e : l[k]? = some (X8 l k) := by
    unfold X8
    rw [List.getD_eq_getElem?_getD, List.getElem?_eq_getElem (by omega)]; rfl
  have h2 := hcell k (.int .u64 (X8 l k : Nat)) (by rw [List.getElem?_map, e]; rfl)
  subst hp
  cases hv
  have e2 : (⟨g, 0, none⟩ : Go.Addr).add k = ⟨g, k, none⟩ := by rw [Addr.add_lit, Nat.zero_add]
  rw [e2] at h2
  exact h2

theorem wpList_append_y {w : World} {ops : Array Oper} {rest : List Oper} {o : Oper} {a : Act} {Q : Exit → Act → World → Prop} (hgd : o.guard = none) (s x : Operand)
    (ho : o.op = .call { callee := .builtin .append, args := #[s, x], argTypes := #[62, 62] })
    (base : Nat) (p : Option Go.Addr) (n cap : Nat) (xs : List Value) (hs : a.eval s = .slice p n cap) (hown : w.ownsRow base 26 1 (.slice p n cap) n xs) (p2 : Option Go.Addr) (c2 : Nat) (t : List Nat) (vx : Value)
    (hx : a.eval x = .slice p2 t.length c2) (hy : YF p2 t vx w) (hz : p2 = none → c2 = 0) (hn : n + t.length ≤ 8) (hbase : base ≤ w.heap.size)
    (h : ∀ p5 cap5 w', w'.ownsRow base 26 1 (.slice p5 (n + t.length) cap5) (n + t.length) (xs ++ t.map u64V) → w.grownBy w' (Value.slice p n cap).ownBlock → wpList Tryd.prog ops Q rest (a.put o.dst (.slice p5 (n + t.length) cap5)) w') : wpList Tryd.prog ops Q (o :: rest) a w := by
  obtain ⟨i0, hi, hz0, hz1, hz2⟩ := info_parts infoU
  by_cases h0 : 0 < t.length
  · obtain ⟨ad, rfl, _, _, hc⟩ := hy h0
    refine wpList_append_lies w hgd s x 62 ho base 26 i0 (.int .u64 0) 1 8 Tryd.underlying62 hi hz0 hz1 hz2 rfl (by decide) _ _ _ hs hown ad t.length c2 (t.map u64V) hx (by simp) hc (fun u hu => by obtain ⟨y, _, rfl⟩ := List.mem_map.1 hu; rfl) h0 (by unfold maxLen; omega) (by omega) hbase _ rfl ?_
    intro g4 cap4 w4 hown4 hgrow4 _ _
    exact h _ _ _ hown4 hgrow4
  · have e : t = [] := List.length_eq_zero_iff.1 (by omega)
    subst e
    cases p2 with
    | none =>
      refine wpList_append_own_none hgd s x 62 ho base 26 i0 1 Tryd.underlying62 hi _ n xs hs hown (by rw [hx, hz rfl]; rfl) ?_
      exact h p cap w (by rw [List.map_nil, List.append_nil]; exact hown) (World.grownBy.refl _ _)
    | some ad =>
      refine wpList_append_own w hgd s x 62 ho base 26 i0 (.int .u64 0) 1 8 Tryd.underlying62 hi hz0 hz1 hz2 rfl (by decide) _ n xs hs hown ad 0 c2 [] hx rfl (fun j u h => by simp at h) (fun u h => by simp at h) (by unfold maxLen; simp at hn; omega) (by simp at hn; omega) hbase ?_
      intro v2 w2 h1 h2 _
      obtain ⟨p5, c5, rfl, _, _⟩ := own_form h1
      exact h p5 c5 w2 h1 h2

set_option maxRecDepth 100000 in
set_option maxHeartbeats 8000000 in
theorem six_any : Six := by
  intro s hs w
  obtain ⟨i0, hi0, hz0, hz1, hz2⟩ := info_parts infoU
  have hsl : (sideL s).size ≤ 65536 := Nat.le_trans (side_len s).1 hs
  have hsr : (sideR s).size ≤ 65536 := Nat.le_trans (side_len s).2 hs
  have CL := hide (fun W => rrow_any (sideL s) hsl W)
  have CR := hide (fun W => rrow_any (sideR s) hsr W)
  have BL := hide (fun h (e : rowS (sideL s) = some h) => Nat.le_trans (rowS_len e) (Nat.succ_le_succ hsl))
  have BR := hide (fun h (e : rowS (sideR s) = some h) => Nat.le_trans (rowS_len e) (Nat.succ_le_succ hsr))
  clear hsl hsr
  have HW0 := Below.refl (w.alloc (.cells #[.int .u64 0, .int .u64 0] 28)).heap.size (w.alloc (.cells #[.int .u64 0, .int .u64 0] 28))
  have T0 := two_zero w 28
  have B0 := below_alloc w (.cells #[.int .u64 0, .int .u64 0] 28)
  have Z0 : w.heap.size + 1 ≤ (w.alloc (.cells #[.int .u64 0, .int .u64 0] 28)).heap.size := by rw [World.size_alloc]; omega
  go_enter Tryd.func11, Tryd.ntmps11
  go_wp2_with fail
  generalize w.alloc (.cells #[.int .u64 0, .int .u64 0] 28) = W0 at *
  go_loopw [4, 5] (fun av iv wr => ∃ k : Nat, k ≤ s.size ∧ iv = .int .i64 k ∧ Below W0.heap.size W0 wr ∧ ((av = .int .i64 (-1) ∧ Hid (Lib.NoOcc s.data.toList [58, 58] k)) ∨
    ∃ j : Nat, j + 1 < s.size ∧ av = .int .i64 (j : Nat) ∧ Hid (Lib.occAt s.data.toList [58, 58] j = true) ∧ Hid (Lib.NoOcc s.data.toList [58, 58] j))) (fun _ i _ => s.size - (intOf i).toNat)
  case atStart => exact ⟨0, Nat.zero_le _, rfl, HW0, Or.inl ⟨rfl, hide (Lib.NoOcc.zero _ _)⟩⟩
  case round =>
    clear HW0
    obtain ⟨k, hk, rfl, HW, ⟨rfl, HN⟩ | ⟨j, hj, rfl, HO, HN⟩⟩ := hrel
    · by_cases hlt : k + 1 < s.size
      · by_cases a0 : s[k] = 58
        · have E0 : ((s[k].toNat : Int) == 58) = true := by rw [a0]; rfl
          by_cases a1 : s[k + 1] = 58
          · have E1 : ((s[k + 1].toNat : Int) == 58) = true := by rw [a1]; rfl
            have HO := hide (occ_is hlt a0 a1)
            clear a0 a1
            go_wp2
            go_roundw
            case rel => exact ⟨k + 1, by omega, by go_num, HW, Or.inr ⟨k, hlt, rfl, HO, HN⟩⟩
            case measure => simp [intOf]; omega
          · have E1 : ((s[k + 1].toNat : Int) == 58) = false := by
              rw [beq_eq_false_iff_ne]; intro e; exact a1 (UInt8.toNat_inj.1 (by show s[k + 1].toNat = 58; omega))
            have HN2 := hide (Lib.NoOcc.succ HN.out (occ_no hlt (fun h => a1 h.2)))
            clear a0 a1
            go_wp2
            go_roundw
            case rel => exact ⟨k + 1, by omega, by go_num, HW, Or.inl ⟨rfl, HN2⟩⟩
            case measure => simp [intOf]; omega
        · have E0 : ((s[k].toNat : Int) == 58) = false := by
            rw [beq_eq_false_iff_ne]; intro e; exact a0 (UInt8.toNat_inj.1 (by show s[k].toNat = 58; omega))
          have HN2 := hide (Lib.NoOcc.succ HN.out (occ_no hlt (fun h => a0 h.1)))
          clear a0
          go_wp2
          go_roundw
          case rel => exact ⟨k + 1, by omega, by go_num, HW, Or.inl ⟨rfl, HN2⟩⟩
          case measure => simp [intOf]; omega
      · obtain ⟨so, sl, sr⟩ := side_none hlt HN.out
        have GL := hide (fun W => (show Calls Tryd.prog 31 #[.string s] W (OwnsR (sideL s) W) by have h := CL.out W; rw [sl] at h ⊢; exact h))
        have GR := hide (fun W => (show Calls Tryd.prog 31 #[.string ⟨#[]⟩] W (OwnsR (sideR s) W) by have h := CR.out W; rw [sr] at h ⊢; exact h))
        have RE := hide (show rowS (sideR s) = some [] by rw [sr]; rfl)
        have SO := hide so
        clear so sl sr HN CL CR
        cases hl : rowS (sideL s) with
        | none =>
          have KL := hide (rowS_none hl)
          have R := hide (get6_none (show get6 s = none by rw [get6_S, hl]))
          clear hl
          go_wp2_with fail
          refine (GL.out _).mono ?_
          rintro e w1 ⟨v1, rfl, hb1, own1⟩
          rw [KL.out.2]
          have HW1 := chain HW hb1
          go_wp2_with fail
          refine (GR.out _).mono ?_
          rintro e w2 ⟨v2, rfl, hb2, own2⟩
          have HW2 := chain HW1 hb2
          have HB2 := chain B0 HW2
          obtain ⟨c0, c1, c2, c3, c4⟩ := T0.step HW2
          clear own1 own2
          go_wp2
          refine bodyPost_ret (v := .tuple #[A (g6V s), .bool (g6O s)]) ?_ rfl ⟨rfl, (HB2.setCell (by simp) _).setCell (by simp) _⟩
          rw [R.out.1, R.out.2]
          simp [results, Tryd.results11, go_sem, hi_zero, lo_zero, c0, c1]
        | some h =>
          cases hr : rowS (sideR s) with
          | none =>
            have KL := hide (rowS_some hl)
            have KR := hide (rowS_none hr)
            have R := hide (get6_none (show get6 s = none by rw [get6_S, hl, hr]))
            clear hl hr
            go_wp2_with fail
            refine (GL.out _).mono ?_
            rintro e w1 ⟨v1, rfl, hb1, own1⟩
            rw [KL.out.2]
            have HW1 := chain HW hb1
            go_wp2_with fail
            refine (GR.out _).mono ?_
            rintro e w2 ⟨v2, rfl, hb2, own2⟩
            have HW2 := chain HW1 hb2
            rw [KR.out.2]
            have HB2 := chain B0 HW2
            obtain ⟨c0, c1, c2, c3, c4⟩ := T0.step HW2
            clear own1 own2
            go_wp2
            refine bodyPost_ret (v := .tuple #[A (g6V s), .bool (g6O s)]) ?_ rfl ⟨rfl, (HB2.setCell (by simp) _).setCell (by simp) _⟩
            rw [R.out.1, R.out.2]
            simp [results, Tryd.results11, go_sem, hi_zero, lo_zero, c0, c1]
          | some t =>
            have KL := hide (rowS_some hl)
            have KR := hide (rowS_some hr)
            have nl := BL.out h hl
            have nr := BR.out t hr
            have LH := hide (rowS_lt hl)
            have LT := hide (rowS_lt hr)
            have t0 := hide (show t.length = 0 by have e := RE.out; rw [hr] at e; rw [Option.some.inj e]; rfl)
            have G := hide (show get6 s = if (sideO s = true ∧ h.length + t.length ≤ 7) ∨ (sideO s = false ∧ h.length + t.length = 8) then some (six h t) else none by rw [get6_S, hl, hr])
            clear hl hr
            by_cases hc : h.length + t.length = 8
            · have R := hide (get6_some (show get6 s = some (six h t) by rw [G.out, SO.out, if_pos (by simp; omega)]))
              have E8 : ((h.length : Int) != 8) = false := by rw [bne_eq_false_iff_eq]; have := t0.out; omega
              clear G
              go_wp2_with fail
              refine (GL.out _).mono ?_
              rintro e w1 ⟨v1, rfl, hb1, own1⟩
              rw [KL.out.2]
              have HW1 := chain HW hb1
              go_wp2_with fail
              refine (GR.out _).mono ?_
              rintro e w2 ⟨v2, rfl, hb2, own2⟩
              have HW2 := chain HW1 hb2
              rw [KR.out.2]
              obtain ⟨p1, c1, rfl, _, _⟩ := own_form own1
              obtain ⟨p2, c2, rfl, _, hy⟩ := own_form own2
              rw [KL.out.1] at own1 ⊢
              rw [KR.out.1] at own2 hy ⊢
              have NIL := hide (fun e : p2 = none => own_nil own2 e)
              have L1 : ∀ k, (Value.slice p1 h.length c1).ownBlock = some k → wr.heap.size ≤ k ∧ k < w1.heap.size := fun k e => own1.lt k e
              have own1 := own_keep own1 hb2
              have HY : YF p2 t (.slice p1 h.length c1) w2 := fun ht => by
                obtain ⟨ad, e1, e2, e3⟩ := hy ht
                refine ⟨ad, e1, e2, ?_, e3⟩
                subst e1
                intro e
                have k1 := (own2.lt ad.block rfl).1
                have k2 := (L1 _ e).2
                omega
              have WZ : wr.heap.size ≤ w2.heap.size := Nat.le_trans hb1.size hb2.size
              have WR : W0.heap.size ≤ wr.heap.size := HW.size
              clear own2 hy L1 hb1 hb2 HW1 HW
              generalize wr.heap.size = b1 at *
              go_wp2_with fail
              go_loopw [8] (fun v wr2 => ∃ (p : Option Go.Addr) (cap z : Nat), h.length + z + t.length ≤ 8 ∧ v = .slice p (h.length + z) cap ∧ wr2.ownsRow b1 26 1 (.slice p (h.length + z) cap) (h.length + z) ((h ++ List.replicate z 0).map u64V) ∧ Hid (YF p2 t (.slice p (h.length + z) cap) wr2) ∧ b1 ≤ wr2.heap.size ∧ Below W0.heap.size W0 wr2) (fun v _ => 8 - lenV v)
              case atStart => exact ⟨p1, c1, 0, by omega, rfl, by simpa using own1, hide HY, WZ, HW2⟩
              case round =>
                clear own1 HY WZ HW2
                obtain ⟨p, cap, z, hz, rfl, own, HY, WZ, HX⟩ := hrel
                have LB : ∀ k, (Value.slice p (h.length + z) cap).ownBlock = some k → W0.heap.size ≤ k := fun k e => Nat.le_trans WR (own.lt k e).1
                by_cases h8 : h.length + z + t.length < 8
                · exfalso; omega
                · have h88 : h.length + z + t.length = 8 := by omega
                  go_wp2_with (at_builtin; go_loud (refine wpList_append_y rfl (.tmp 94) (.tmp 95) rfl b1 p (h.length + z) cap _ rfl own p2 c2 t _ rfl HY.out NIL.out (by omega) WZ ?_); intro p5 cap5 w5 own5 hgrow5)
                  have HB5 := HX.grown hgrow5 HX.size LB
                  rw [h88] at own5
                  have own6 : w5.ownsRow b1 26 1 (.slice p5 8 cap5) 8 ((h ++ List.replicate z 0 ++ t).map u64V) := by rw [List.map_append]; exact own5
                  clear own5 hgrow5 HY own LB
                  have ez : z = 8 - h.length - t.length := by omega
                  have L8 : (h ++ List.replicate z 0 ++ t).length = 8 := by simp; omega
                  have FX : ∀ k, X8 (h ++ List.replicate z 0 ++ t) k < 65536 := by rw [ez]; exact fill8_lt LH.out LT.out
                  have RV := hide (show g6V s = part (X8 (h ++ List.replicate z 0 ++ t)) 8 by rw [R.out.1, ez]; rfl)
                  generalize h ++ List.replicate z 0 ++ t = xl at *
                  obtain ⟨g, rfl⟩ := own_zero own6 (by decide)
                  have XC := hide (fun k (hk : k < 8) => x8_cell L8 own6 k hk)
                  have gl := (own6.lt g rfl).2
                  generalize X8 xl = X at *
                  clear own6 L8 LH LT
                  go_wp2_with fail
                  have Q6 := wd_new w5 28
                  have HB6 := HB5.alloc HB5.size (.cells #[.int .u64 0, .int .u64 0] 28)
                  have XC6 := hide (fun k (hk : k < 8) => keep_cell (below_alloc w5 (.cells #[.int .u64 0, .int .u64 0] 28)) (XC.out k hk))
                  have gq : g ≠ w5.heap.size := by omega
                  have q0 : W0.heap.size ≤ w5.heap.size := HB5.size
                  clear XC HB5 gl
                  generalize w5.alloc (.cells #[.int .u64 0, .int .u64 0] 28) = w6 at *
                  generalize w5.heap.size = q at *
                  go_loopw [13] (fun iv W => ∃ k : Nat, k ≤ 4 ∧ iv = .int .i64 k ∧ Wd q (part X k) (part (fun j => X (4 + j)) k) W ∧ Hid (∀ k, k < 8 → W.cell? ⟨g, k, none⟩ = some (.int .u64 (X k : Nat))) ∧ Below W0.heap.size W0 W) (fun i _ => 4 - (intOf i).toNat)
                  case atStart => exact ⟨0, by omega, rfl, Q6, XC6, HB6⟩
                  case round =>
                    clear Q6 XC6 HB6
                    obtain ⟨k, hk, rfl, HQ, XC, HX⟩ := hrel
                    by_cases hk4 : k < 4
                    · have x1 := XC.out k (by omega)
                      have x2 := XC.out (4 + k) (by omega)
                      obtain ⟨a0, a1, a2, a3, a4⟩ := id HQ
                      have s1 := part_step FX hk4
                      have s2 := part_step (g := fun j => X (4 + j)) (fun k => FX (4 + k)) hk4
                      have n1 : part X (k + 1) = part X k * 65536 + X k := rfl
                      have n2 : part (fun j => X (4 + j)) (k + 1) = part (fun j => X (4 + j)) k * 65536 + X (4 + k) := rfl
                      have HQ2 := HQ.put (part X (k + 1)) (part (fun j => X (4 + j)) (k + 1))
                      have W1 : IntKind.u64.wrap (IntKind.u64.wrap (((part X k : Nat) : Int) * 65536) + ((X k : Nat) : Int)) = ((part X (k + 1) : Nat) : Int) := by rw [IntKind.wrap_u64, IntKind.wrap_u64, n1]; omega
                      have W2 : IntKind.u64.wrap (IntKind.u64.wrap (((part (fun j => X (4 + j)) k : Nat) : Int) * 65536) + ((X (4 + k) : Nat) : Int)) = ((part (fun j => X (4 + j)) (k + 1) : Nat) : Int) := by rw [IntKind.wrap_u64, IntKind.wrap_u64, n2]; omega
                      have W3 : IntKind.i64.wrap (4 + (k : Int)) = ((4 + k : Nat) : Int) := by rw [IntKind.wrap_i64]; omega
                      have i1 : (k : Int) < 8 := by omega
                      have i2 : ((4 + k : Nat) : Int) < 8 := by omega
                      generalize hy1 : part X (k + 1) = y1 at *
                      generalize hy2 : part (fun j => X (4 + j)) (k + 1) = y2 at *
                      have HY1 := hide hy1
                      have HY2 := hide hy2
                      clear hy1 hy2
                      generalize part X k = z1 at *
                      generalize part (fun j => X (4 + j)) k = z2 at *
                      clear n1 n2 s1 s2
                      go_wp2_with fail
                      go_region
                      go_wp2_with fail
                      go_region
                      go_wp2
                      go_roundw
                      case rel =>
                        have XC2 := hide (show ∀ k, k < 8 → ((wr.setCell ⟨q, 0, none⟩ (.int .u64 (y1 : Nat))).setCell ⟨q, 1, none⟩ (.int .u64 (y2 : Nat))).cell? ⟨g, k, none⟩ = some (.int .u64 (X k : Nat)) from fun k hk => by
                          rw [World.cell?_of_block (w := wr.setCell ⟨q, 0, none⟩ (.int .u64 (y1 : Nat))) (Below.heap_setCell _ _ _ g gq), World.cell?_of_block (w := wr) (Below.heap_setCell wr _ _ g gq)]
                          exact XC.out k hk)
                        have HX2 : Below W0.heap.size W0 ((wr.setCell ⟨q, 0, none⟩ (.int .u64 (y1 : Nat))).setCell ⟨q, 1, none⟩ (.int .u64 (y2 : Nat))) := (HX.setCell q0 _).setCell q0 _
                        exact ⟨k + 1, by omega, by go_num, by rw [HY1.out, HY2.out]; exact HQ2, XC2, HX2.drew.drew⟩
                      case measure => simp [intOf]; omega
                    · have e4 : k = 4 := by omega
                      have HQ4 : Wd q (part X 4) (part (fun j => X (4 + j)) 4) wr := by rw [e4] at HQ; exact HQ
                      obtain ⟨a0, a1, _⟩ := id HQ4
                      obtain ⟨c0, c1, c2, c3, c4⟩ := T0.step HX
                      clear e4 HQ
                      go_wp2
                      refine bodyPost_ret (v := .tuple #[A (g6V s), .bool (g6O s)]) ?_ rfl ⟨rfl, ((chain B0 HX).setCell (by simp) _).setCell (by simp) _⟩
                      rw [RV.out, R.out.2]
                      simp [results, Tryd.results11, go_sem, (words_eight FX).1, (words_eight FX).2, c0, c1]
            · have R := hide (get6_none (show get6 s = none by rw [G.out, SO.out, if_neg (by simp; omega)]))
              have E8 : ((h.length : Int) != 8) = true := by rw [bne_iff_ne]; have := t0.out; omega
              clear G
              go_wp2_with fail
              refine (GL.out _).mono ?_
              rintro e w1 ⟨v1, rfl, hb1, own1⟩
              rw [KL.out.2]
              have HW1 := chain HW hb1
              go_wp2_with fail
              refine (GR.out _).mono ?_
              rintro e w2 ⟨v2, rfl, hb2, own2⟩
              have HW2 := chain HW1 hb2
              rw [KR.out.2]
              obtain ⟨p1, c1, rfl, _, _⟩ := own_form own1
              obtain ⟨p2, c2, rfl, _, hy⟩ := own_form own2
              rw [KL.out.1] at own1 ⊢
              rw [KR.out.1] at own2 hy ⊢
              have HB2 := chain B0 HW2
              obtain ⟨c0, c1, c2, c3, c4⟩ := T0.step HW2
              clear own1 own2
              go_wp2
              refine bodyPost_ret (v := .tuple #[A (g6V s), .bool (g6O s)]) ?_ rfl ⟨rfl, (HB2.setCell (by simp) _).setCell (by simp) _⟩
              rw [R.out.1, R.out.2]
              simp [results, Tryd.results11, go_sem, hi_zero, lo_zero, c0, c1]
    · obtain ⟨so, sl, sr⟩ := side_hit hj HO.out HN.out
      have GL := hide (fun W => (show Calls Tryd.prog 31 #[.string (s.extract 0 j)] W (OwnsR (sideL s) W) by have h := CL.out W; rw [sl] at h ⊢; exact h))
      have GR := hide (fun W => (show Calls Tryd.prog 31 #[.string (s.extract (j + 2) s.size)] W (OwnsR (sideR s) W) by have h := CR.out W; rw [sr] at h ⊢; exact h))
      have SO := hide so
      clear so sl sr HN HO CL CR
      by_cases hlt : k + 1 < s.size
      · cases hl : rowS (sideL s) with
        | none =>
          have KL := hide (rowS_none hl)
          have R := hide (get6_none (show get6 s = none by rw [get6_S, hl]))
          clear hl
          go_wp2_with fail
          refine (GL.out _).mono ?_
          rintro e w1 ⟨v1, rfl, hb1, own1⟩
          rw [KL.out.2]
          have HW1 := chain HW hb1
          go_wp2_with fail
          refine (GR.out _).mono ?_
          rintro e w2 ⟨v2, rfl, hb2, own2⟩
          have HW2 := chain HW1 hb2
          have HB2 := chain B0 HW2
          obtain ⟨c0, c1, c2, c3, c4⟩ := T0.step HW2
          clear own1 own2
          go_wp2
          refine bodyPost_ret (v := .tuple #[A (g6V s), .bool (g6O s)]) ?_ rfl ⟨rfl, (HB2.setCell (by simp) _).setCell (by simp) _⟩
          rw [R.out.1, R.out.2]
          simp [results, Tryd.results11, go_sem, hi_zero, lo_zero, c0, c1]
        | some h =>
          cases hr : rowS (sideR s) with
          | none =>
            have KL := hide (rowS_some hl)
            have KR := hide (rowS_none hr)
            have R := hide (get6_none (show get6 s = none by rw [get6_S, hl, hr]))
            clear hl hr
            go_wp2_with fail
            refine (GL.out _).mono ?_
            rintro e w1 ⟨v1, rfl, hb1, own1⟩
            rw [KL.out.2]
            have HW1 := chain HW hb1
            go_wp2_with fail
            refine (GR.out _).mono ?_
            rintro e w2 ⟨v2, rfl, hb2, own2⟩
            have HW2 := chain HW1 hb2
            rw [KR.out.2]
            have HB2 := chain B0 HW2
            obtain ⟨c0, c1, c2, c3, c4⟩ := T0.step HW2
            clear own1 own2
            go_wp2
            refine bodyPost_ret (v := .tuple #[A (g6V s), .bool (g6O s)]) ?_ rfl ⟨rfl, (HB2.setCell (by simp) _).setCell (by simp) _⟩
            rw [R.out.1, R.out.2]
            simp [results, Tryd.results11, go_sem, hi_zero, lo_zero, c0, c1]
          | some t =>
            have KL := hide (rowS_some hl)
            have KR := hide (rowS_some hr)
            have nl := BL.out h hl
            have nr := BR.out t hr
            have LH := hide (rowS_lt hl)
            have LT := hide (rowS_lt hr)
            have G := hide (show get6 s = if (sideO s = true ∧ h.length + t.length ≤ 7) ∨ (sideO s = false ∧ h.length + t.length = 8) then some (six h t) else none by rw [get6_S, hl, hr])
            clear hl hr
            by_cases hc : h.length + t.length ≤ 7
            · have R := hide (get6_some (show get6 s = some (six h t) by rw [G.out, SO.out, if_pos (by simp; omega)]))
              clear G
              go_wp2_with fail
              refine (GL.out _).mono ?_
              rintro e w1 ⟨v1, rfl, hb1, own1⟩
              rw [KL.out.2]
              have HW1 := chain HW hb1
              go_wp2_with fail
              refine (GR.out _).mono ?_
              rintro e w2 ⟨v2, rfl, hb2, own2⟩
              have HW2 := chain HW1 hb2
              rw [KR.out.2]
              obtain ⟨p1, c1, rfl, _, _⟩ := own_form own1
              obtain ⟨p2, c2, rfl, _, hy⟩ := own_form own2
              rw [KL.out.1] at own1 ⊢
              rw [KR.out.1] at own2 hy ⊢
              have NIL := hide (fun e : p2 = none => own_nil own2 e)
              have L1 : ∀ k, (Value.slice p1 h.length c1).ownBlock = some k → wr.heap.size ≤ k ∧ k < w1.heap.size := fun k e => own1.lt k e
              have own1 := own_keep own1 hb2
              have HY : YF p2 t (.slice p1 h.length c1) w2 := fun ht => by
                obtain ⟨ad, e1, e2, e3⟩ := hy ht
                refine ⟨ad, e1, e2, ?_, e3⟩
                subst e1
                intro e
                have k1 := (own2.lt ad.block rfl).1
                have k2 := (L1 _ e).2
                omega
              have WZ : wr.heap.size ≤ w2.heap.size := Nat.le_trans hb1.size hb2.size
              have WR : W0.heap.size ≤ wr.heap.size := HW.size
              clear own2 hy L1 hb1 hb2 HW1 HW
              generalize wr.heap.size = b1 at *
              go_wp2_with fail
              go_loopw [8] (fun v wr2 => ∃ (p : Option Go.Addr) (cap z : Nat), h.length + z + t.length ≤ 8 ∧ v = .slice p (h.length + z) cap ∧ wr2.ownsRow b1 26 1 (.slice p (h.length + z) cap) (h.length + z) ((h ++ List.replicate z 0).map u64V) ∧ Hid (YF p2 t (.slice p (h.length + z) cap) wr2) ∧ b1 ≤ wr2.heap.size ∧ Below W0.heap.size W0 wr2) (fun v _ => 8 - lenV v)
              case atStart => exact ⟨p1, c1, 0, by omega, rfl, by simpa using own1, hide HY, WZ, HW2⟩
              case round =>
                clear own1 HY WZ HW2
                obtain ⟨p, cap, z, hz, rfl, own, HY, WZ, HX⟩ := hrel
                have LB : ∀ k, (Value.slice p (h.length + z) cap).ownBlock = some k → W0.heap.size ≤ k := fun k e => Nat.le_trans WR (own.lt k e).1
                by_cases h8 : h.length + z + t.length < 8
                · have hA := own.alloc (.cells #[.int .u64 0] 26)
                  have HB := HX.alloc HX.size (.cells #[.int .u64 0] 26)
                  have NEWS := World.news_of_block (w := wr.alloc (.cells #[.int .u64 0] 26)) (heap_alloc_new wr (.cells #[.int .u64 0] 26))
                  have HYA := YF.alloc HY.out (.cells #[.int .u64 0] 26)
                  have BZ : b1 ≤ (wr.alloc (.cells #[.int .u64 0] 26)).heap.size := by rw [World.size_alloc]; omega
                  go_wp2_with (at_builtin; go_loud (refine wpList_append_lies _ rfl (.tmp 91) (.tmp 92) 62 rfl b1 26 i0 (.int .u64 0) 1 8 Tryd.underlying62 hi0 hz0 hz1 hz2 rfl (by decide) _ _ _ rfl hA ⟨wr.heap.size, 0, none⟩ 1 1 [.int .u64 0] rfl rfl NEWS (u64_one _) (by omega) (by unfold maxLen; omega) (by omega) BZ _ rfl ?_); intro g4 cap4 w4 hown4 hgrow4 hat4 hlt4)
                  have HB4 := HB.grown hgrow4 HB.size LB
                  have HS4 := hgrow4.size
                  have HY4 := hide (show YF p2 t (.slice (some ⟨g4, 0, none⟩) (h.length + (z + 1)) cap4) w4 from fun ht => by
                    obtain ⟨ad, e1, e2, e3, e4⟩ := HYA ht
                    refine ⟨ad, e1, by omega, ?_, fun j u hj => by rw [hgrow4.cell (e4 j u hj) (fun e => by rw [add_block] at e; exact e3 e.symm)]⟩
                    intro e
                    have e5 : g4 = ad.block := Option.some.inj e
                    rcases hat4 with h1 | h1
                    · exact e3 (by rw [← e5]; exact h1)
                    · omega)
                  have WZ4 : b1 ≤ w4.heap.size := by omega
                  have own4 : w4.ownsRow b1 26 1 (.slice (some ⟨g4, 0, none⟩) (h.length + (z + 1)) cap4) (h.length + (z + 1)) ((h ++ List.replicate (z + 1) 0).map u64V) := by
                    rw [List.replicate_succ', ← List.append_assoc, List.map_append]
                    exact hown4
                  clear NEWS hA HB HYA BZ hgrow4 hat4 hlt4 hown4 HS4
                  go_wp2
                  go_roundw
                  case rel => exact ⟨_, cap4, z + 1, by omega, rfl, own4, HY4, WZ4, HB4⟩
                  case measure => first | (simp [lenV]; done) | (simp [lenV]; omega)
                · have h88 : h.length + z + t.length = 8 := by omega
                  go_wp2_with (at_builtin; go_loud (refine wpList_append_y rfl (.tmp 94) (.tmp 95) rfl b1 p (h.length + z) cap _ rfl own p2 c2 t _ rfl HY.out NIL.out (by omega) WZ ?_); intro p5 cap5 w5 own5 hgrow5)
                  have HB5 := HX.grown hgrow5 HX.size LB
                  rw [h88] at own5
                  have own6 : w5.ownsRow b1 26 1 (.slice p5 8 cap5) 8 ((h ++ List.replicate z 0 ++ t).map u64V) := by rw [List.map_append]; exact own5
                  clear own5 hgrow5 HY own LB
                  have ez : z = 8 - h.length - t.length := by omega
                  have L8 : (h ++ List.replicate z 0 ++ t).length = 8 := by simp; omega
                  have FX : ∀ k, X8 (h ++ List.replicate z 0 ++ t) k < 65536 := by rw [ez]; exact fill8_lt LH.out LT.out
                  have RV := hide (show g6V s = part (X8 (h ++ List.replicate z 0 ++ t)) 8 by rw [R.out.1, ez]; rfl)
                  generalize h ++ List.replicate z 0 ++ t = xl at *
                  obtain ⟨g, rfl⟩ := own_zero own6 (by decide)
                  have XC := hide (fun k (hk : k < 8) => x8_cell L8 own6 k hk)
                  have gl := (own6.lt g rfl).2
                  generalize X8 xl = X at *
                  clear own6 L8 LH LT
                  go_wp2_with fail
                  have Q6 := wd_new w5 28
                  have HB6 := HB5.alloc HB5.size (.cells #[.int .u64 0, .int .u64 0] 28)
                  have XC6 := hide (fun k (hk : k < 8) => keep_cell (below_alloc w5 (.cells #[.int .u64 0, .int .u64 0] 28)) (XC.out k hk))
                  have gq : g ≠ w5.heap.size := by omega
                  have q0 : W0.heap.size ≤ w5.heap.size := HB5.size
                  clear XC HB5 gl
                  generalize w5.alloc (.cells #[.int .u64 0, .int .u64 0] 28) = w6 at *
                  generalize w5.heap.size = q at *
                  go_loopw [13] (fun iv W => ∃ k : Nat, k ≤ 4 ∧ iv = .int .i64 k ∧ Wd q (part X k) (part (fun j => X (4 + j)) k) W ∧ Hid (∀ k, k < 8 → W.cell? ⟨g, k, none⟩ = some (.int .u64 (X k : Nat))) ∧ Below W0.heap.size W0 W) (fun i _ => 4 - (intOf i).toNat)
                  case atStart => exact ⟨0, by omega, rfl, Q6, XC6, HB6⟩
                  case round =>
                    clear Q6 XC6 HB6
                    obtain ⟨k, hk, rfl, HQ, XC, HX⟩ := hrel
                    by_cases hk4 : k < 4
                    · have x1 := XC.out k (by omega)
                      have x2 := XC.out (4 + k) (by omega)
                      obtain ⟨a0, a1, a2, a3, a4⟩ := id HQ
                      have s1 := part_step FX hk4
                      have s2 := part_step (g := fun j => X (4 + j)) (fun k => FX (4 + k)) hk4
                      have n1 : part X (k + 1) = part X k * 65536 + X k := rfl
                      have n2 : part (fun j => X (4 + j)) (k + 1) = part (fun j => X (4 + j)) k * 65536 + X (4 + k) := rfl
                      have HQ2 := HQ.put (part X (k + 1)) (part (fun j => X (4 + j)) (k + 1))
                      have W1 : IntKind.u64.wrap (IntKind.u64.wrap (((part X k : Nat) : Int) * 65536) + ((X k : Nat) : Int)) = ((part X (k + 1) : Nat) : Int) := by rw [IntKind.wrap_u64, IntKind.wrap_u64, n1]; omega
                      have W2 : IntKind.u64.wrap (IntKind.u64.wrap (((part (fun j => X (4 + j)) k : Nat) : Int) * 65536) + ((X (4 + k) : Nat) : Int)) = ((part (fun j => X (4 + j)) (k + 1) : Nat) : Int) := by rw [IntKind.wrap_u64, IntKind.wrap_u64, n2]; omega
                      have W3 : IntKind.i64.wrap (4 + (k : Int)) = ((4 + k : Nat) : Int) := by rw [IntKind.wrap_i64]; omega
                      have i1 : (k : Int) < 8 := by omega
                      have i2 : ((4 + k : Nat) : Int) < 8 := by omega
                      generalize hy1 : part X (k + 1) = y1 at *
                      generalize hy2 : part (fun j => X (4 + j)) (k + 1) = y2 at *
                      have HY1 := hide hy1
                      have HY2 := hide hy2
                      clear hy1 hy2
                      generalize part X k = z1 at *
                      generalize part (fun j => X (4 + j)) k = z2 at *
                      clear n1 n2 s1 s2
                      go_wp2_with fail
                      go_region
                      go_wp2_with fail
                      go_region
                      go_wp2
                      go_roundw
                      case rel =>
                        have XC2 := hide (show ∀ k, k < 8 → ((wr.setCell ⟨q, 0, none⟩ (.int .u64 (y1 : Nat))).setCell ⟨q, 1, none⟩ (.int .u64 (y2 : Nat))).cell? ⟨g, k, none⟩ = some (.int .u64 (X k : Nat)) from fun k hk => by
                          rw [World.cell?_of_block (w := wr.setCell ⟨q, 0, none⟩ (.int .u64 (y1 : Nat))) (Below.heap_setCell _ _ _ g gq), World.cell?_of_block (w := wr) (Below.heap_setCell wr _ _ g gq)]
                          exact XC.out k hk)
                        have HX2 : Below W0.heap.size W0 ((wr.setCell ⟨q, 0, none⟩ (.int .u64 (y1 : Nat))).setCell ⟨q, 1, none⟩ (.int .u64 (y2 : Nat))) := (HX.setCell q0 _).setCell q0 _
                        exact ⟨k + 1, by omega, by go_num, by rw [HY1.out, HY2.out]; exact HQ2, XC2, HX2.drew.drew⟩
                      case measure => simp [intOf]; omega
                    · have e4 : k = 4 := by omega
                      have HQ4 : Wd q (part X 4) (part (fun j => X (4 + j)) 4) wr := by rw [e4] at HQ; exact HQ
                      obtain ⟨a0, a1, _⟩ := id HQ4
                      obtain ⟨c0, c1, c2, c3, c4⟩ := T0.step HX
                      clear e4 HQ
                      go_wp2
                      refine bodyPost_ret (v := .tuple #[A (g6V s), .bool (g6O s)]) ?_ rfl ⟨rfl, ((chain B0 HX).setCell (by simp) _).setCell (by simp) _⟩
                      rw [RV.out, R.out.2]
                      simp [results, Tryd.results11, go_sem, (words_eight FX).1, (words_eight FX).2, c0, c1]
            · have R := hide (get6_none (show get6 s = none by rw [G.out, SO.out, if_neg (by simp; omega)]))
              have E7 : (7 : Int) < (h.length : Int) + (t.length : Int) := by omega
              clear G
              go_wp2_with fail
              refine (GL.out _).mono ?_
              rintro e w1 ⟨v1, rfl, hb1, own1⟩
              rw [KL.out.2]
              have HW1 := chain HW hb1
              go_wp2_with fail
              refine (GR.out _).mono ?_
              rintro e w2 ⟨v2, rfl, hb2, own2⟩
              have HW2 := chain HW1 hb2
              rw [KR.out.2]
              obtain ⟨p1, c1, rfl, _, _⟩ := own_form own1
              obtain ⟨p2, c2, rfl, _, hy⟩ := own_form own2
              rw [KL.out.1] at own1 ⊢
              rw [KR.out.1] at own2 hy ⊢
              have HB2 := chain B0 HW2
              obtain ⟨c0, c1, c2, c3, c4⟩ := T0.step HW2
              clear own1 own2
              go_wp2
              refine bodyPost_ret (v := .tuple #[A (g6V s), .bool (g6O s)]) ?_ rfl ⟨rfl, (HB2.setCell (by simp) _).setCell (by simp) _⟩
              rw [R.out.1, R.out.2]
              simp [results, Tryd.results11, go_sem, hi_zero, lo_zero, c0, c1]
      · cases hl : rowS (sideL s) with
        | none =>
          have KL := hide (rowS_none hl)
          have R := hide (get6_none (show get6 s = none by rw [get6_S, hl]))
          clear hl
          go_wp2_with fail
          refine (GL.out _).mono ?_
          rintro e w1 ⟨v1, rfl, hb1, own1⟩
          rw [KL.out.2]
          have HW1 := chain HW hb1
          go_wp2_with fail
          refine (GR.out _).mono ?_
          rintro e w2 ⟨v2, rfl, hb2, own2⟩
          have HW2 := chain HW1 hb2
          have HB2 := chain B0 HW2
          obtain ⟨c0, c1, c2, c3, c4⟩ := T0.step HW2
          clear own1 own2
          go_wp2
          refine bodyPost_ret (v := .tuple #[A (g6V s), .bool (g6O s)]) ?_ rfl ⟨rfl, (HB2.setCell (by simp) _).setCell (by simp) _⟩
          rw [R.out.1, R.out.2]
          simp [results, Tryd.results11, go_sem, hi_zero, lo_zero, c0, c1]
        | some h =>
          cases hr : rowS (sideR s) with
          | none =>
            have KL := hide (rowS_some hl)
            have KR := hide (rowS_none hr)
            have R := hide (get6_none (show get6 s = none by rw [get6_S, hl, hr]))
            clear hl hr
            go_wp2_with fail
            refine (GL.out _).mono ?_
            rintro e w1 ⟨v1, rfl, hb1, own1⟩
            rw [KL.out.2]
            have HW1 := chain HW hb1
            go_wp2_with fail
            refine (GR.out _).mono ?_
            rintro e w2 ⟨v2, rfl, hb2, own2⟩
            have HW2 := chain HW1 hb2
            rw [KR.out.2]
            have HB2 := chain B0 HW2
            obtain ⟨c0, c1, c2, c3, c4⟩ := T0.step HW2
            clear own1 own2
            go_wp2
            refine bodyPost_ret (v := .tuple #[A (g6V s), .bool (g6O s)]) ?_ rfl ⟨rfl, (HB2.setCell (by simp) _).setCell (by simp) _⟩
            rw [R.out.1, R.out.2]
            simp [results, Tryd.results11, go_sem, hi_zero, lo_zero, c0, c1]
          | some t =>
            have KL := hide (rowS_some hl)
            have KR := hide (rowS_some hr)
            have nl := BL.out h hl
            have nr := BR.out t hr
            have LH := hide (rowS_lt hl)
            have LT := hide (rowS_lt hr)
            have G := hide (show get6 s = if (sideO s = true ∧ h.length + t.length ≤ 7) ∨ (sideO s = false ∧ h.length + t.length = 8) then some (six h t) else none by rw [get6_S, hl, hr])
            clear hl hr
            by_cases hc : h.length + t.length ≤ 7
            · have R := hide (get6_some (show get6 s = some (six h t) by rw [G.out, SO.out, if_pos (by simp; omega)]))
              clear G
              go_wp2_with fail
              refine (GL.out _).mono ?_
              rintro e w1 ⟨v1, rfl, hb1, own1⟩
              rw [KL.out.2]
              have HW1 := chain HW hb1
              go_wp2_with fail
              refine (GR.out _).mono ?_
              rintro e w2 ⟨v2, rfl, hb2, own2⟩
              have HW2 := chain HW1 hb2
              rw [KR.out.2]
              obtain ⟨p1, c1, rfl, _, _⟩ := own_form own1
              obtain ⟨p2, c2, rfl, _, hy⟩ := own_form own2
              rw [KL.out.1] at own1 ⊢
              rw [KR.out.1] at own2 hy ⊢
              have NIL := hide (fun e : p2 = none => own_nil own2 e)
              have L1 : ∀ k, (Value.slice p1 h.length c1).ownBlock = some k → wr.heap.size ≤ k ∧ k < w1.heap.size := fun k e => own1.lt k e
              have own1 := own_keep own1 hb2
              have HY : YF p2 t (.slice p1 h.length c1) w2 := fun ht => by
                obtain ⟨ad, e1, e2, e3⟩ := hy ht
                refine ⟨ad, e1, e2, ?_, e3⟩
                subst e1
                intro e
                have k1 := (own2.lt ad.block rfl).1
                have k2 := (L1 _ e).2
                omega
              have WZ : wr.heap.size ≤ w2.heap.size := Nat.le_trans hb1.size hb2.size
              have WR : W0.heap.size ≤ wr.heap.size := HW.size
              clear own2 hy L1 hb1 hb2 HW1 HW
              generalize wr.heap.size = b1 at *
              go_wp2_with fail
              go_loopw [8] (fun v wr2 => ∃ (p : Option Go.Addr) (cap z : Nat), h.length + z + t.length ≤ 8 ∧ v = .slice p (h.length + z) cap ∧ wr2.ownsRow b1 26 1 (.slice p (h.length + z) cap) (h.length + z) ((h ++ List.replicate z 0).map u64V) ∧ Hid (YF p2 t (.slice p (h.length + z) cap) wr2) ∧ b1 ≤ wr2.heap.size ∧ Below W0.heap.size W0 wr2) (fun v _ => 8 - lenV v)
              case atStart => exact ⟨p1, c1, 0, by omega, rfl, by simpa using own1, hide HY, WZ, HW2⟩
              case round =>
                clear own1 HY WZ HW2
                obtain ⟨p, cap, z, hz, rfl, own, HY, WZ, HX⟩ := hrel
                have LB : ∀ k, (Value.slice p (h.length + z) cap).ownBlock = some k → W0.heap.size ≤ k := fun k e => Nat.le_trans WR (own.lt k e).1
                by_cases h8 : h.length + z + t.length < 8
                · have hA := own.alloc (.cells #[.int .u64 0] 26)
                  have HB := HX.alloc HX.size (.cells #[.int .u64 0] 26)
                  have NEWS := World.news_of_block (w := wr.alloc (.cells #[.int .u64 0] 26)) (heap_alloc_new wr (.cells #[.int .u64 0] 26))
                  have HYA := YF.alloc HY.out (.cells #[.int .u64 0] 26)
                  have BZ : b1 ≤ (wr.alloc (.cells #[.int .u64 0] 26)).heap.size := by rw [World.size_alloc]; omega
                  go_wp2_with (at_builtin; go_loud (refine wpList_append_lies _ rfl (.tmp 91) (.tmp 92) 62 rfl b1 26 i0 (.int .u64 0) 1 8 Tryd.underlying62 hi0 hz0 hz1 hz2 rfl (by decide) _ _ _ rfl hA ⟨wr.heap.size, 0, none⟩ 1 1 [.int .u64 0] rfl rfl NEWS (u64_one _) (by omega) (by unfold maxLen; omega) (by omega) BZ _ rfl ?_); intro g4 cap4 w4 hown4 hgrow4 hat4 hlt4)
                  have HB4 := HB.grown hgrow4 HB.size LB
                  have HS4 := hgrow4.size
                  have HY4 := hide (show YF p2 t (.slice (some ⟨g4, 0, none⟩) (h.length + (z + 1)) cap4) w4 from fun ht => by
                    obtain ⟨ad, e1, e2, e3, e4⟩ := HYA ht
                    refine ⟨ad, e1, by omega, ?_, fun j u hj => by rw [hgrow4.cell (e4 j u hj) (fun e => by rw [add_block] at e; exact e3 e.symm)]⟩
                    intro e
                    have e5 : g4 = ad.block := Option.some.inj e
                    rcases hat4 with h1 | h1
                    · exact e3 (by rw [← e5]; exact h1)
                    · omega)
                  have WZ4 : b1 ≤ w4.heap.size := by omega
                  have own4 : w4.ownsRow b1 26 1 (.slice (some ⟨g4, 0, none⟩) (h.length + (z + 1)) cap4) (h.length + (z + 1)) ((h ++ List.replicate (z + 1) 0).map u64V) := by
                    rw [List.replicate_succ', ← List.append_assoc, List.map_append]
                    exact hown4
                  clear NEWS hA HB HYA BZ hgrow4 hat4 hlt4 hown4 HS4
                  go_wp2
                  go_roundw
                  case rel => exact ⟨_, cap4, z + 1, by omega, rfl, own4, HY4, WZ4, HB4⟩
                  case measure => first | (simp [lenV]; done) | (simp [lenV]; omega)
                · have h88 : h.length + z + t.length = 8 := by omega
                  go_wp2_with (at_builtin; go_loud (refine wpList_append_y rfl (.tmp 94) (.tmp 95) rfl b1 p (h.length + z) cap _ rfl own p2 c2 t _ rfl HY.out NIL.out (by omega) WZ ?_); intro p5 cap5 w5 own5 hgrow5)
                  have HB5 := HX.grown hgrow5 HX.size LB
                  rw [h88] at own5
                  have own6 : w5.ownsRow b1 26 1 (.slice p5 8 cap5) 8 ((h ++ List.replicate z 0 ++ t).map u64V) := by rw [List.map_append]; exact own5
                  clear own5 hgrow5 HY own LB
                  have ez : z = 8 - h.length - t.length := by omega
                  have L8 : (h ++ List.replicate z 0 ++ t).length = 8 := by simp; omega
                  have FX : ∀ k, X8 (h ++ List.replicate z 0 ++ t) k < 65536 := by rw [ez]; exact fill8_lt LH.out LT.out
                  have RV := hide (show g6V s = part (X8 (h ++ List.replicate z 0 ++ t)) 8 by rw [R.out.1, ez]; rfl)
                  generalize h ++ List.replicate z 0 ++ t = xl at *
                  obtain ⟨g, rfl⟩ := own_zero own6 (by decide)
                  have XC := hide (fun k (hk : k < 8) => x8_cell L8 own6 k hk)
                  have gl := (own6.lt g rfl).2
                  generalize X8 xl = X at *
                  clear own6 L8 LH LT
                  go_wp2_with fail
                  have Q6 := wd_new w5 28
                  have HB6 := HB5.alloc HB5.size (.cells #[.int .u64 0, .int .u64 0] 28)
                  have XC6 := hide (fun k (hk : k < 8) => keep_cell (below_alloc w5 (.cells #[.int .u64 0, .int .u64 0] 28)) (XC.out k hk))
                  have gq : g ≠ w5.heap.size := by omega
                  have q0 : W0.heap.size ≤ w5.heap.size := HB5.size
                  clear XC HB5 gl
                  generalize w5.alloc (.cells #[.int .u64 0, .int .u64 0] 28) = w6 at *
                  generalize w5.heap.size = q at *
                  go_loopw [13] (fun iv W => ∃ k : Nat, k ≤ 4 ∧ iv = .int .i64 k ∧ Wd q (part X k) (part (fun j => X (4 + j)) k) W ∧ Hid (∀ k, k < 8 → W.cell? ⟨g, k, none⟩ = some (.int .u64 (X k : Nat))) ∧ Below W0.heap.size W0 W) (fun i _ => 4 - (intOf i).toNat)
                  case atStart => exact ⟨0, by omega, rfl, Q6, XC6, HB6⟩
                  case round =>
                    clear Q6 XC6 HB6
                    obtain ⟨k, hk, rfl, HQ, XC, HX⟩ := hrel
                    by_cases hk4 : k < 4
                    · have x1 := XC.out k (by omega)
                      have x2 := XC.out (4 + k) (by omega)
                      obtain ⟨a0, a1, a2, a3, a4⟩ := id HQ
                      have s1 := part_step FX hk4
                      have s2 := part_step (g := fun j => X (4 + j)) (fun k => FX (4 + k)) hk4
                      have n1 : part X (k + 1) = part X k * 65536 + X k := rfl
                      have n2 : part (fun j => X (4 + j)) (k + 1) = part (fun j => X (4 + j)) k * 65536 + X (4 + k) := rfl
                      have HQ2 := HQ.put (part X (k + 1)) (part (fun j => X (4 + j)) (k + 1))
                      have W1 : IntKind.u64.wrap (IntKind.u64.wrap (((part X k : Nat) : Int) * 65536) + ((X k : Nat) : Int)) = ((part X (k + 1) : Nat) : Int) := by rw [IntKind.wrap_u64, IntKind.wrap_u64, n1]; omega
                      have W2 : IntKind.u64.wrap (IntKind.u64.wrap (((part (fun j => X (4 + j)) k : Nat) : Int) * 65536) + ((X (4 + k) : Nat) : Int)) = ((part (fun j => X (4 + j)) (k + 1) : Nat) : Int) := by rw [IntKind.wrap_u64, IntKind.wrap_u64, n2]; omega
                      have W3 : IntKind.i64.wrap (4 + (k : Int)) = ((4 + k : Nat) : Int) := by rw [IntKind.wrap_i64]; omega
                      have i1 : (k : Int) < 8 := by omega
                      have i2 : ((4 + k : Nat) : Int) < 8 := by omega
                      generalize hy1 : part X (k + 1) = y1 at *
                      generalize hy2 : part (fun j => X (4 + j)) (k + 1) = y2 at *
                      have HY1 := hide hy1
                      have HY2 := hide hy2
                      clear hy1 hy2
                      generalize part X k = z1 at *
                      generalize part (fun j => X (4 + j)) k = z2 at *
                      clear n1 n2 s1 s2
                      go_wp2_with fail
                      go_region
                      go_wp2_with fail
                      go_region
                      go_wp2
                      go_roundw
                      case rel =>
                        have XC2 := hide (show ∀ k, k < 8 → ((wr.setCell ⟨q, 0, none⟩ (.int .u64 (y1 : Nat))).setCell ⟨q, 1, none⟩ (.int .u64 (y2 : Nat))).cell? ⟨g, k, none⟩ = some (.int .u64 (X k : Nat)) from fun k hk => by
                          rw [World.cell?_of_block (w := wr.setCell ⟨q, 0, none⟩ (.int .u64 (y1 : Nat))) (Below.heap_setCell _ _ _ g gq), World.cell?_of_block (w := wr) (Below.heap_setCell wr _ _ g gq)]
                          exact XC.out k hk)
                        have HX2 : Below W0.heap.size W0 ((wr.setCell ⟨q, 0, none⟩ (.int .u64 (y1 : Nat))).setCell ⟨q, 1, none⟩ (.int .u64 (y2 : Nat))) := (HX.setCell q0 _).setCell q0 _
                        exact ⟨k + 1, by omega, by go_num, by rw [HY1.out, HY2.out]; exact HQ2, XC2, HX2.drew.drew⟩
                      case measure => simp [intOf]; omega
                    · have e4 : k = 4 := by omega
                      have HQ4 : Wd q (part X 4) (part (fun j => X (4 + j)) 4) wr := by rw [e4] at HQ; exact HQ
                      obtain ⟨a0, a1, _⟩ := id HQ4
                      obtain ⟨c0, c1, c2, c3, c4⟩ := T0.step HX
                      clear e4 HQ
                      go_wp2
                      refine bodyPost_ret (v := .tuple #[A (g6V s), .bool (g6O s)]) ?_ rfl ⟨rfl, ((chain B0 HX).setCell (by simp) _).setCell (by simp) _⟩
                      rw [RV.out, R.out.2]
                      simp [results, Tryd.results11, go_sem, (words_eight FX).1, (words_eight FX).2, c0, c1]
            · have R := hide (get6_none (show get6 s = none by rw [G.out, SO.out, if_neg (by simp; omega)]))
              have E7 : (7 : Int) < (h.length : Int) + (t.length : Int) := by omega
              clear G
              go_wp2_with fail
              refine (GL.out _).mono ?_
              rintro e w1 ⟨v1, rfl, hb1, own1⟩
              rw [KL.out.2]
              have HW1 := chain HW hb1
              go_wp2_with fail
              refine (GR.out _).mono ?_
              rintro e w2 ⟨v2, rfl, hb2, own2⟩
              have HW2 := chain HW1 hb2
              rw [KR.out.2]
              obtain ⟨p1, c1, rfl, _, _⟩ := own_form own1
              obtain ⟨p2, c2, rfl, _, hy⟩ := own_form own2
              rw [KL.out.1] at own1 ⊢
              rw [KR.out.1] at own2 hy ⊢
              have HB2 := chain B0 HW2
              obtain ⟨c0, c1, c2, c3, c4⟩ := T0.step HW2
              clear own1 own2
              go_wp2
              refine bodyPost_ret (v := .tuple #[A (g6V s), .bool (g6O s)]) ?_ rfl ⟨rfl, (HB2.setCell (by simp) _).setCell (by simp) _⟩
              rw [R.out.1, R.out.2]
              simp [results, Tryd.results11, go_sem, hi_zero, lo_zero, c0, c1]
end Go.Proofs.YtmapcllmiomelaaDoor
