/-
  The contract of Emit. Condition: a row of options takes at most 2^47 bytes.
-/
import Derived.Test.YtmoklodaeicpgaaOpE
import Derived.Test.YtmoklodaeicpgaaTbRg
namespace Go.Proofs.Ytmoklodaeicpgaa
open Go.RowKit Go.Joins Go.Maps

theorem hasC_any (c : UInt8) {v : Value} {l : List Opt} (hl : l.length * 24 ≤ 140737488355328) (w : World) (hv : LstO v l w) (g : Nat) (hb : BoxC g c w) :
    Calls Try.prog 37 #[v, OfF g] w (Gives (.bool (hasC c l)) w) :=
  contains_any 58 #[.pointer (some ⟨g, 0, none⟩)] (fun x => decide (x.1 = c)) hl w hv enters_of1 (fun W2 h2 x _ => of1_any x c g W2 (hb.step h2))
theorem pieces_len : ∀ (n : Nat) (c : UInt8) (d : List UInt8), d.length ≤ n → (pieces c d).length ≤ 2 * d.length + 2
  | n, c, d, h => by
    by_cases e : 255 < d.length
    · rw [pieces_more e]
      obtain ⟨m, rfl⟩ : ∃ m, n = m + 1 := ⟨n - 1, by omega⟩
      have := pieces_len m c (d.drop 255) (by rw [List.length_drop]; omega)
      rw [List.length_drop] at this
      simp only [List.length_append, List.length_cons, List.length_take]
      omega
    · rw [pieces_last e]
      simp only [List.length_cons]
      omega
theorem emitB_len : ∀ (l : List Opt), (∀ x ∈ l, x.2.size ≤ 4096) → (emitB l).length ≤ l.length * 8194
  | [], _ => by simp [emitB]
  | x :: r, h => by
    have h1 := emitB_len r (fun y hy => h y (List.mem_cons_of_mem _ hy))
    have h2 := pieces_len _ x.1 (lb x.2) (Nat.le_refl _)
    have h3 := h x (List.mem_cons_self ..)
    rw [lb_len] at h2
    have e : emitB (x :: r) = pieces x.1 (lb x.2) ++ emitB r := rfl
    rw [e, List.length_append, List.length_cons]
    omega
theorem ok_size {l : List Opt} {k : Nat} (h : ∀ j, j < k → okAt l j = true) : ∀ x ∈ l.take k, x.2.size ≤ 4096 := by
  intro x hx
  obtain ⟨j, hj, rfl⟩ := List.getElem_of_mem hx
  rw [List.length_take] at hj
  have := h j (by omega)
  unfold okAt at this
  rw [List.getElem?_eq_getElem (show j < l.length by omega)] at this
  simp only [Bool.and_eq_true] at this
  have h2 := this.1
  unfold soundO at h2
  rw [decide_eq_true_eq] at h2
  rw [List.getElem_take]
  exact h2.2.2
def EmitG (l : List Opt) (w : World) (e : Ending) (w2 : World) : Prop := e = .returned (.tuple #[.string (bs (emitS l)), .int .i64 (emitE l : Nat)]) ∧ Below w.heap.size w w2
theorem emit_bad {l : List Opt} {k : Nat} (hl : l.length ≤ 128) (hk : k < l.length) (h : okAt l k = false) : emitE l = 130 ∧ emitS l = [] := by
  have e : emitE l = 130 := by
    unfold emitE
    rw [if_neg (by omega), if_neg]
    intro h2
    unfold emitOk at h2
    rw [List.all_eq_true] at h2
    have := h2 k (List.mem_range.2 hk)
    rw [h] at this; cases this
  exact ⟨e, by unfold emitS; rw [e]; rfl⟩
theorem emit_good {l : List Opt} (hl : l.length ≤ 128) (h : ∀ j, j < l.length → okAt l j = true) : emitE l = 0 ∧ emitS l = emitB l ++ [255] := by
  have e : emitE l = 0 := by
    unfold emitE emitOk
    rw [if_neg (by omega), if_pos]
    rw [List.all_eq_true]
    intro k hk
    exact h k (List.mem_range.1 hk)
  exact ⟨e, by unfold emitS; rw [e]; rfl⟩
theorem ok_at {l : List Opt} {k : Nat} {x : Opt} (hx : l[k]? = some x) : okAt l k = (soundO x && !hasC x.1 (l.take k)) := by
  unfold okAt; rw [hx]
/-- the memory of Emit's round: the area so far, and the list -/
def EB (w : World) (va : Value) (B : List UInt8) (W : World) : Prop := Below w.heap.size w W ∧ OwnB W w.heap.size va B
theorem EB.step {w : World} {va : Value} {B : List UInt8} {W W2 : World} (h : EB w va B W) (hb : Below W.heap.size W W2) : EB w va B W2 := ⟨chain h.1 hb, own_keep h.2 hb⟩
/-- .. and the option's box -/
def EC (w : World) (va : Value) (B : List UInt8) (b : Nat) (x : Opt) (W : World) : Prop := EB w va B W ∧ W.cell? ⟨b, 0, none⟩ = some (.int .u8 (x.1.toNat : Int)) ∧ W.cell? ⟨b, 1, none⟩ = some (.string x.2)
theorem EC.step {w : World} {va : Value} {B : List UInt8} {b : Nat} {x : Opt} {W W2 : World} (h : EC w va B b x W) (hb : Below W.heap.size W W2) : EC w va B b x W2 := ⟨h.1.step hb, keep_cell hb h.2.1, keep_cell hb h.2.2⟩
set_option maxRecDepth 100000 in
set_option maxHeartbeats 4000000 in
theorem emit_any {v : Value} {l : List Opt} (hl : l.length ≤ 9223372036854775807) (w : World) (hv : LstO v l w) :
    Calls Try.prog 18 #[v] w (EmitG l w) := by
  have HV := hide (fun W (H : Below w.heap.size w W) => hv.step H)
  obtain ⟨p, c, rfl⟩ := lstO_len hv
  by_cases h128 : 128 < l.length
  · have E := hide (show emitE l = 6 ∧ emitS l = [] by
      have e : emitE l = 6 := by unfold emitE; rw [if_pos h128]
      exact ⟨e, by unfold emitS; rw [e]; rfl⟩)
    have P1 : (128 : Int) < (l.length : Int) := by omega
    clear hv
    go_enter Try.func18, Try.ntmps18
    go_wp2
    go_ret2
    exact ⟨congrArg Ending.returned (tup2 (by rw [E.out.2]; rfl) (by rw [E.out.1]; rfl)), Below.refl _ _⟩
  · have P1 : ¬ (128 : Int) < (l.length : Int) := by omega
    have hl24 : l.length * 24 ≤ 140737488355328 := by omega
    have E0 : EB w (.slice none 0 0) (emitB (l.take 0)) w := ⟨Below.refl _ _, ownB_nil _ _⟩
    have hlcap := (lstO_cap hv).2.1
    clear hv
    go_enter Try.func18, Try.ntmps18
    go_wp2
    go_loopw [4, 12] (fun va vi wr => ∃ k : Nat, k ≤ l.length ∧ vi = .int .i64 (k : Nat) ∧ Hid (∀ j, j < k → okAt l j = true) ∧ EB w va (emitB (l.take k)) wr) (fun _ vi _ => l.length - (intOf vi).toNat)
    case atStart => exact ⟨0, Nat.zero_le _, rfl, hide (fun j h => absurd h (Nat.not_lt_zero _)), E0⟩
    case round =>
      obtain ⟨k, hk, rfl, HK, HE⟩ := hrel
      clear E0
      by_cases hlt : k < l.length
      · obtain ⟨x, hx⟩ := getO_some hlt
        obtain ⟨b, o, rfl, _, x1, x2⟩ := lstO_at (HV.out _ HE.1) hx
        have H3 := hide (show EC w u4 (emitB (l.take k)) wr.heap.size x (wr.alloc (.cells #[.int .u8 (x.1.toNat : Int), .string x.2] 47)) from ⟨HE.step (below_alloc _ _), by simp [go_sem], by simp [go_sem]⟩)
        have OK := hide (ok_at hx)
        have HX := hide hx
        have kc : k ≤ c := by omega
        cases hs : soundO x with
        | false =>
          have SD := hide (fun W => (show Calls Try.prog 36 #[OV x] W (Gives (.bool false) W) by have := sound_any x W; rw [hs] at this; exact this))
          have BAD := hide (emit_bad (by omega) hlt (by rw [OK.out, hs]; rfl))
          clear hs HE hx
          go_wp2_with fail
          generalize wr.alloc (.cells #[.int .u8 (x.1.toNat : Int), .string x.2] 47) = W3 at *
          refine wp_region_rel (EC w u4 (emitB (l.take k)) wr.heap.size x) [some 17, some 18, some 19, some 20, some 21, some 22, some 23, some 24, some 25, some 26, some 27, some 28] [fun yy _ => yy = OV x, fun yy _ => yy = .bool false, fun yy _ => yy = .bool true, fun yy _ => yy = .bool true, fun yy _ => yy = undef, fun yy _ => yy = undef, fun yy _ => yy = undef, fun yy _ => yy = undef, fun yy _ => yy = undef, fun yy _ => yy = undef, fun yy _ => yy = undef, fun yy _ => yy = .bool true] 37 (by kernel_rfl) (by kernel_rfl) rfl rfl (H3.out.step (Below.refl _ _).drew) ?_ ?_
          · refine ⟨⟨fun _ _ _ h _ => h, fun a' W K hC hd hf hK => ?_⟩, ⟨fun _ _ _ h _ => h, fun a' W K hC hd hf hK => ?_⟩, ⟨fun _ _ _ h _ => h, fun a' W K hC hd hf hK => ?_⟩, ⟨fun _ _ _ h _ => h, fun a' W K hC hd hf hK => ?_⟩, ⟨fun _ _ _ h _ => h, fun a' W K hC hd hf hK => ?_⟩, ⟨fun _ _ _ h _ => h, fun a' W K hC hd hf hK => ?_⟩, ⟨fun _ _ _ h _ => h, fun a' W K hC hd hf hK => ?_⟩, ⟨fun _ _ _ h _ => h, fun a' W K hC hd hf hK => ?_⟩, ⟨fun _ _ _ h _ => h, fun a' W K hC hd hf hK => ?_⟩, ⟨fun _ _ _ h _ => h, fun a' W K hC hd hf hK => ?_⟩, ⟨fun _ _ _ h _ => h, fun a' W K hC hd hf hK => ?_⟩, ⟨fun _ _ _ h _ => h, fun a' W K hC hd hf hK => ?_⟩, trivial⟩
            · refine op_plain rfl ?_
              have f6 : a'.tmps[6]?.getD undef = .pointer (some ⟨wr.heap.size, 0, none⟩) := (hf.out 6 (by kernel_rfl)).trans (by simp)
              obtain ⟨_, e0, e1⟩ := id hC
              go_simp
              exact hK.out _ _ hC (Below.refl _ _) rfl
            · refine op_plain rfl ?_
              have d17 : a'.tmps[17]?.getD undef = OV x := hd.out 0 17 (by kernel_rfl) rfl
              go_simp
              go_at_call 36
              refine (SD.out W).mono ?_
              rintro e w5 ⟨rfl, hb5⟩
              exact hK.out _ _ (hC.step hb5) hb5 rfl
            · refine op_plain rfl ?_
              have d18 : a'.tmps[18]?.getD undef = .bool false := hd.out 1 18 (by kernel_rfl) rfl
              go_simp
              exact hK.out _ _ hC (Below.refl _ _) rfl
            · refine op_plain rfl ?_
              have d19 : a'.tmps[19]?.getD undef = .bool true := hd.out 2 19 (by kernel_rfl) rfl
              go_simp
              exact hK.out _ _ hC (Below.refl _ _) rfl
            · have gd : a'.tmps[20]?.getD undef = .bool true := hd.out 3 20 (by kernel_rfl) rfl
              refine op_no rfl (by kernel_rfl) gd rfl ?_
              exact hK.out _ _ hC (Below.refl _ _) rfl
            · have gd : a'.tmps[20]?.getD undef = .bool true := hd.out 3 20 (by kernel_rfl) rfl
              refine op_no rfl (by kernel_rfl) gd rfl ?_
              exact hK.out _ _ hC (Below.refl _ _) rfl
            · have gd : a'.tmps[20]?.getD undef = .bool true := hd.out 3 20 (by kernel_rfl) rfl
              refine op_no rfl (by kernel_rfl) gd rfl ?_
              exact hK.out _ _ hC (Below.refl _ _) rfl
            · have gd : a'.tmps[20]?.getD undef = .bool true := hd.out 3 20 (by kernel_rfl) rfl
              refine op_no rfl (by kernel_rfl) gd rfl ?_
              exact hK.out _ _ hC (Below.refl _ _) rfl
            · have gd : a'.tmps[20]?.getD undef = .bool true := hd.out 3 20 (by kernel_rfl) rfl
              refine op_no rfl (by kernel_rfl) gd rfl ?_
              exact hK.out _ _ hC (Below.refl _ _) rfl
            · have gd : a'.tmps[20]?.getD undef = .bool true := hd.out 3 20 (by kernel_rfl) rfl
              refine op_no rfl (by kernel_rfl) gd rfl ?_
              exact hK.out _ _ hC (Below.refl _ _) rfl
            · have gd : a'.tmps[20]?.getD undef = .bool true := hd.out 3 20 (by kernel_rfl) rfl
              refine op_no rfl (by kernel_rfl) gd rfl ?_
              exact hK.out _ _ hC (Below.refl _ _) rfl
            · refine op_plain rfl ?_
              have d20 : a'.tmps[20]?.getD undef = .bool true := hd.out 3 20 (by kernel_rfl) rfl
              have d27 : a'.tmps[27]?.getD undef = undef := hd.out 10 27 (by kernel_rfl) rfl
              go_simp
              exact hK.out _ _ hC (Below.refl _ _) rfl
          · intro vs W5 H5 hR
            have q0 : vs 0 = OV x := hR.out 0 (by decide)
            have q1 : vs 1 = .bool false := hR.out 1 (by decide)
            have q2 : vs 2 = .bool true := hR.out 2 (by decide)
            have q3 : vs 3 = .bool true := hR.out 3 (by decide)
            have q4 : vs 4 = undef := hR.out 4 (by decide)
            have q5 : vs 5 = undef := hR.out 5 (by decide)
            have q6 : vs 6 = undef := hR.out 6 (by decide)
            have q7 : vs 7 = undef := hR.out 7 (by decide)
            have q8 : vs 8 = undef := hR.out 8 (by decide)
            have q9 : vs 9 = undef := hR.out 9 (by decide)
            have q10 : vs 10 = undef := hR.out 10 (by decide)
            have q11 : vs 11 = .bool true := hR.out 11 (by decide)
            simp only [fillF, Act.put, List.setIfInBounds_toArray, List.set_cons_zero, List.set_cons_succ, Nat.reduceAdd, q0, q1, q2, q3, q4, q5, q6, q7, q8, q9, q10, q11]
            clear hR q0 q1 q2 q3 q4 q5 q6 q7 q8 q9 q10 q11
            go_wp2
            go_ret2
            exact ⟨congrArg Ending.returned (tup2 (by rw [BAD.out.2]; rfl) (by rw [BAD.out.1]; rfl)), H5.1.1⟩
        | true =>
          have SD := hide (fun W => (show Calls Try.prog 36 #[OV x] W (Gives (.bool true) W) by have := sound_any x W; rw [hs] at this; exact this))
          have KT : (l.take k).length = k := by rw [List.length_take]; omega
          have CF := hide (fun W (H : Below w.heap.size w W) gb (hb : BoxC gb x.1 W) => (show Calls Try.prog 37 #[.slice (some ⟨b, o, none⟩) k c, OfF gb] W (Gives (.bool (hasC x.1 (l.take k))) W) from
            hasC_any x.1 (by rw [KT]; omega) W (lstO_cut (HV.out W H) hk) gb hb))
          have BAD := hide (fun (h : hasC x.1 (l.take k) = true) => emit_bad (by omega) hlt (by rw [OK.out, hs, h]; rfl))
          have GOOD := hide (fun (h : hasC x.1 (l.take k) = false) => (show okAt l k = true by rw [OK.out, hs, h]; rfl))
          have hx4 : x.2.size ≤ 4096 := by
            unfold soundO at hs
            rw [decide_eq_true_eq] at hs
            exact hs.2.2
          have hBl : (emitB (l.take k)).length ≤ 70368744177664 := by
            have := emitB_len (l.take k) (ok_size HK.out)
            rw [KT] at this
            omega
          have ET := hide (emitB_take hx)
          have AO := hide (fun W (H : OwnB W w.heap.size u4 (emitB (l.take k))) (hb : w.heap.size ≤ W.heap.size) => appendOption_any x hx4 hBl W H hb)
          generalize hasC x.1 (l.take k) = hb at *
          clear hs HE hx KT hBl OK hx4
          go_wp2_with fail
          generalize wr.alloc (.cells #[.int .u8 (x.1.toNat : Int), .string x.2] 47) = W3 at *
          refine wp_region_rel (EC w u4 (emitB (l.take k)) wr.heap.size x) [some 17, some 18, some 19, some 20, some 21, some 22, some 23, some 24, some 25, some 26, some 27, some 28] [fun yy _ => yy = OV x, fun yy _ => yy = .bool true, fun yy _ => yy = .bool false, fun yy _ => yy = .bool false, fun yy _ => yy = .slice (some ⟨b, o, none⟩) l.length c, fun yy _ => yy = .int .i64 (k : Nat), fun yy _ => yy = .slice (some ⟨b, o, none⟩) k c, fun yy _ => yy = .pointer (some ⟨wr.heap.size, 0, none⟩), fun yy _ => yy = .int .u8 (x.1.toNat : Int), fun yy W => ∃ g, yy = OfF g ∧ BoxC g x.1 W, fun yy _ => yy = .bool hb, fun yy _ => yy = .bool hb] 37 (by kernel_rfl) (by kernel_rfl) rfl rfl (H3.out.step (Below.refl _ _).drew) ?_ ?_
          · refine ⟨⟨fun _ _ _ h _ => h, fun a' W K hC hd hf hK => ?_⟩, ⟨fun _ _ _ h _ => h, fun a' W K hC hd hf hK => ?_⟩, ⟨fun _ _ _ h _ => h, fun a' W K hC hd hf hK => ?_⟩, ⟨fun _ _ _ h _ => h, fun a' W K hC hd hf hK => ?_⟩, ⟨fun _ _ _ h _ => h, fun a' W K hC hd hf hK => ?_⟩, ⟨fun _ _ _ h _ => h, fun a' W K hC hd hf hK => ?_⟩, ⟨fun _ _ _ h _ => h, fun a' W K hC hd hf hK => ?_⟩, ⟨fun _ _ _ h _ => h, fun a' W K hC hd hf hK => ?_⟩, ⟨fun _ _ _ h _ => h, fun a' W K hC hd hf hK => ?_⟩, ⟨fun _ _ _ ⟨g, h0, h1⟩ hb => ⟨g, h0, h1.step hb⟩, fun a' W K hC hd hf hK => ?_⟩, ⟨fun _ _ _ h _ => h, fun a' W K hC hd hf hK => ?_⟩, ⟨fun _ _ _ h _ => h, fun a' W K hC hd hf hK => ?_⟩, trivial⟩
            · refine op_plain rfl ?_
              have f6 : a'.tmps[6]?.getD undef = .pointer (some ⟨wr.heap.size, 0, none⟩) := (hf.out 6 (by kernel_rfl)).trans (by simp)
              obtain ⟨_, e0, e1⟩ := id hC
              go_simp
              exact hK.out _ _ hC (Below.refl _ _) rfl
            · refine op_plain rfl ?_
              have d17 : a'.tmps[17]?.getD undef = OV x := hd.out 0 17 (by kernel_rfl) rfl
              go_simp
              go_at_call 36
              refine (SD.out W).mono ?_
              rintro e w5 ⟨rfl, hb5⟩
              exact hK.out _ _ (hC.step hb5) hb5 rfl
            · refine op_plain rfl ?_
              have d18 : a'.tmps[18]?.getD undef = .bool true := hd.out 1 18 (by kernel_rfl) rfl
              go_simp
              exact hK.out _ _ hC (Below.refl _ _) rfl
            · refine op_plain rfl ?_
              have d19 : a'.tmps[19]?.getD undef = .bool false := hd.out 2 19 (by kernel_rfl) rfl
              go_simp
              exact hK.out _ _ hC (Below.refl _ _) rfl
            · have gd : a'.tmps[20]?.getD undef = .bool false := hd.out 3 20 (by kernel_rfl) rfl
              refine op_yes rfl (by kernel_rfl) gd ?_
              clear gd
              have f0 : a'.tmps[0]?.getD undef = .slice (some ⟨b, o, none⟩) l.length c := (hf.out 0 (by kernel_rfl)).trans (by simp)
              go_simp
              exact hK.out _ _ hC (Below.refl _ _) rfl
            · have gd : a'.tmps[20]?.getD undef = .bool false := hd.out 3 20 (by kernel_rfl) rfl
              refine op_yes rfl (by kernel_rfl) gd ?_
              clear gd
              have f5 : a'.tmps[5]?.getD undef = .int .i64 (k : Nat) := (hf.out 5 (by kernel_rfl)).trans (by simp)
              go_simp
              exact hK.out _ _ hC (Below.refl _ _) rfl
            · have gd : a'.tmps[20]?.getD undef = .bool false := hd.out 3 20 (by kernel_rfl) rfl
              refine op_yes rfl (by kernel_rfl) gd ?_
              clear gd
              have d21 : a'.tmps[21]?.getD undef = .slice (some ⟨b, o, none⟩) l.length c := hd.out 4 21 (by kernel_rfl) rfl
              have d22 : a'.tmps[22]?.getD undef = .int .i64 (k : Nat) := hd.out 5 22 (by kernel_rfl) rfl
              go_simp
              exact hK.out _ _ hC (Below.refl _ _) rfl
            · have gd : a'.tmps[20]?.getD undef = .bool false := hd.out 3 20 (by kernel_rfl) rfl
              refine op_yes rfl (by kernel_rfl) gd ?_
              clear gd
              have f6 : a'.tmps[6]?.getD undef = .pointer (some ⟨wr.heap.size, 0, none⟩) := (hf.out 6 (by kernel_rfl)).trans (by simp)
              go_simp
              exact hK.out _ _ hC (Below.refl _ _) rfl
            · have gd : a'.tmps[20]?.getD undef = .bool false := hd.out 3 20 (by kernel_rfl) rfl
              refine op_yes rfl (by kernel_rfl) gd ?_
              clear gd
              have d24 : a'.tmps[24]?.getD undef = .pointer (some ⟨wr.heap.size, 0, none⟩) := hd.out 7 24 (by kernel_rfl) rfl
              obtain ⟨_, e0, e1⟩ := id hC
              go_simp
              exact hK.out _ _ hC (Below.refl _ _) rfl
            · have gd : a'.tmps[20]?.getD undef = .bool false := hd.out 3 20 (by kernel_rfl) rfl
              refine op_yes rfl (by kernel_rfl) gd ?_
              clear gd
              have d25 : a'.tmps[25]?.getD undef = .int .u8 (x.1.toNat : Int) := hd.out 8 25 (by kernel_rfl) rfl
              go_simp
              go_at_call 38
              refine (of_any x.1 W).mono ?_
              rintro e w6 ⟨rfl, hb6, hx6⟩
              exact hK.out _ _ (hC.step hb6) hb6 ⟨_, rfl, hx6⟩
            · have gd : a'.tmps[20]?.getD undef = .bool false := hd.out 3 20 (by kernel_rfl) rfl
              refine op_yes rfl (by kernel_rfl) gd ?_
              clear gd
              have d23 : a'.tmps[23]?.getD undef = .slice (some ⟨b, o, none⟩) k c := hd.out 6 23 (by kernel_rfl) rfl
              have d26 := hd.out 9 26 (by kernel_rfl) rfl
              obtain ⟨g, e9, o9⟩ := d26
              go_simp
              go_at_call 37
              refine (CF.out W hC.1.1 g o9).mono ?_
              rintro e w7 ⟨rfl, hb7⟩
              exact hK.out _ _ (hC.step hb7) hb7 rfl
            · refine op_plain rfl ?_
              have d20 : a'.tmps[20]?.getD undef = .bool false := hd.out 3 20 (by kernel_rfl) rfl
              have d27 : a'.tmps[27]?.getD undef = .bool hb := hd.out 10 27 (by kernel_rfl) rfl
              go_simp
              exact hK.out _ _ hC (Below.refl _ _) rfl
          · intro vs W5 H5 hR
            have q0 : vs 0 = OV x := hR.out 0 (by decide)
            have q1 : vs 1 = .bool true := hR.out 1 (by decide)
            have q2 : vs 2 = .bool false := hR.out 2 (by decide)
            have q3 : vs 3 = .bool false := hR.out 3 (by decide)
            have q4 : vs 4 = .slice (some ⟨b, o, none⟩) l.length c := hR.out 4 (by decide)
            have q5 : vs 5 = .int .i64 (k : Nat) := hR.out 5 (by decide)
            have q6 : vs 6 = .slice (some ⟨b, o, none⟩) k c := hR.out 6 (by decide)
            have q7 : vs 7 = .pointer (some ⟨wr.heap.size, 0, none⟩) := hR.out 7 (by decide)
            have q8 : vs 8 = .int .u8 (x.1.toNat : Int) := hR.out 8 (by decide)
            have r9 := hR.out 9 (by decide)
            generalize hq9 : vs 9 = q9 at *
            change (fun yy W => ∃ g, yy = OfF g ∧ BoxC g x.1 W) q9 W5 at r9
            have q10 : vs 10 = .bool hb := hR.out 10 (by decide)
            have q11 : vs 11 = .bool hb := hR.out 11 (by decide)
            simp only [fillF, Act.put, List.setIfInBounds_toArray, List.set_cons_zero, List.set_cons_succ, Nat.reduceAdd, q0, q1, q2, q3, q4, q5, q6, q7, q8, hq9, q10, q11]
            clear hR q0 q1 q2 q3 q4 q5 q6 q7 q8 hq9 q10 q11
            clear r9
            cases hb with
            | true =>
              go_wp2
              go_ret2
              exact ⟨congrArg Ending.returned (tup2 (by rw [(BAD.out (by trivial)).2]; rfl) (by rw [(BAD.out (by trivial)).1]; rfl)), H5.1.1⟩
            | false =>
              have H6 := hide H5
              obtain ⟨_, e0, e1⟩ := H5
              go_wp2_with (go_at_call 39; refine (AO.out _ H6.out.1.2 H6.out.1.1.size).mono ?_; rintro e w8 ⟨v8, rfl, hb8, ho8⟩)
              go_roundw
              case rel => exact ⟨k + 1, hlt, by go_num, hide (fun j hj => by
                by_cases e : j = k
                · rw [e]; exact GOOD.out (by trivial)
                · exact HK.out j (by omega)), H6.out.1.1.trans hb8, by rw [ET.out]; exact ho8⟩
              case measure => simp [intOf]; omega
      · have ek : k = l.length := by omega
        subst ek
        have GD := hide (emit_good (by omega) HK.out)
        have hBl : (emitB (l.take l.length)).length ≤ 70368744177664 := by
          have := emitB_len (l.take l.length) (ok_size HK.out)
          rw [List.take_length] at this ⊢
          omega
        rw [List.take_length] at HE hBl
        have HE2 := hide HE
        generalize emitB l = B at *
        clear HE
        go_wp2_with (at_builtin; refine wpList_append_bytes rfl (.tmp 33) (.tmp 34) rfl w.heap.size _ B rfl (own_keep HE2.out.2 (below_alloc _ _)) wr.heap.size 1 [255] rfl (cell_one_new _ _ _) (by simp) (by simp; omega) (Nat.le_trans HE2.out.1.size (below_alloc _ _).size) ?_; intro v3 w3 q1 q2 q3; obtain ⟨g3, c3, rfl, _, _⟩ := q1.form (by simp); have CV := conv_own q1; simp only [List.length_append, List.length_cons, List.length_nil, Nat.zero_add] at CV)
        go_ret2
        exact ⟨congrArg Ending.returned (tup2 (by rw [GD.out.2]; rfl) (by rw [GD.out.1]; rfl)), (HE2.out.1.trans ((below_alloc _ _).mono HE2.out.1.size)).trans (below_grown (Nat.le_trans HE2.out.1.size (below_alloc _ _).size) (own_keep HE2.out.2 (below_alloc _ _)) q2)⟩
end Go.Proofs.Ytmoklodaeicpgaa
