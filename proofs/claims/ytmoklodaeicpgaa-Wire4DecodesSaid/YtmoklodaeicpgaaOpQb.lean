/-
  The document's own Emit (tenancyref13). No condition beyond an int's.
-/
import Derived.Test.YtmoklodaeicpgaaOpQa
namespace Go.Proofs.Ytmoklodaeicpgaa
open Go.RowKit Go.Joins Go.Maps

theorem find_take {l : List Opt} {k : Nat} {x : Opt} (hx : l[k]? = some x) : ∃ i : Nat, findI l x.1 = (i : Int) ∧ hasC x.1 (l.take k) = decide (i < k) ∧ i ≤ k := by
  obtain ⟨hk, rfl⟩ := List.getElem?_eq_some_iff.1 hx
  unfold findI idxI
  cases h : l.findIdx? (fun y => decide (y.1 = l[k].1)) with
  | none =>
    have := List.findIdx?_eq_none_iff.1 h l[k] (List.getElem_mem hk)
    simp at this
  | some i =>
    obtain ⟨hi, h1, h2⟩ := List.findIdx?_eq_some_iff_getElem.1 h
    have hik : i ≤ k := by
      rcases Nat.lt_or_ge k i with h3 | h3
      · have := h2 k h3
        simp at this
      · exact h3
    refine ⟨i, rfl, ?_, hik⟩
    unfold hasC
    by_cases h3 : i < k
    · rw [decide_eq_true h3, List.any_eq_true]
      exact ⟨l[i], List.mem_take_iff_getElem.2 ⟨i, by omega, rfl⟩, h1⟩
    · rw [decide_eq_false h3, List.any_eq_false]
      intro y hy
      obtain ⟨j, hj, rfl⟩ := List.mem_take_iff_getElem.1 hy
      have := h2 j (by omega)
      simpa using this
theorem bad_sound {l : List Opt} {k : Nat} {x : Opt} (hx : l[k]? = some x) (h : soundO x = false ∨ hasC x.1 (l.take k) = true) : okAt l k = false := by
  rw [ok_at hx]
  rcases h with h | h <;> rw [h] <;> simp
theorem not_sound {x : Opt} (h : x.1 = 0 ∨ x.1 = 255 ∨ 4096 < x.2.size) : soundO x = false := by
  unfold soundO
  rw [decide_eq_false]
  rintro ⟨h1, h2, h3⟩
  rcases h with h | h | h
  · exact h1 h
  · exact h2 h
  · omega
theorem ownB_empty (W : World) : OwnB (W.alloc (.cells #[] 5)) W.heap.size (.slice (some ⟨W.heap.size, 0, none⟩) 0 0) [] :=
  World.ownsRow_lit W #[] 0 (Nat.le_refl _) (by unfold maxLen; omega) rfl
set_option maxRecDepth 100000 in
set_option maxHeartbeats 4000000 in
theorem remit_any {v : Value} {l : List Opt} (hl : l.length ≤ 9223372036854775807) (w : World) (hv : LstO v l w) :
    Calls Try.prog 26 #[v] w (EmitG l w) := by
  have HV := hide (fun W (H : Below w.heap.size w W) => hv.step H)
  obtain ⟨p, c, rfl⟩ := lstO_len hv
  clear hv
  by_cases h128 : 128 < l.length
  · have E := hide (show emitE l = 6 ∧ emitS l = [] by
      have e : emitE l = 6 := by unfold emitE; rw [if_pos h128]
      exact ⟨e, by unfold emitS; rw [e]; rfl⟩)
    have P1 : (128 : Int) < (l.length : Int) := by omega
    go_enter Try.func26, Try.ntmps26
    go_wp2
    go_ret2
    exact ⟨congrArg Ending.returned (tup2 (by rw [E.out.2]; rfl) (by rw [E.out.1]; rfl)), Below.refl _ _⟩
  · have P1 : ¬ (128 : Int) < (l.length : Int) := by omega
    have hl24 : l.length * 24 ≤ 140737488355328 := by omega
    have PL := hide (fun W c (H : Below w.heap.size w W) => place_any c hl24 W (HV.out W H))
    have E0 : OwnB (w.alloc (.cells #[] 5)) w.heap.size (.slice (some ⟨w.heap.size, 0, none⟩) 0 0) (emitB (l.take 0)) := ownB_empty w
    have B0 := below_alloc w (.cells #[] 5)
    go_enter Try.func26, Try.ntmps26
    go_wp2
    generalize w.alloc (.cells #[] 5) = W0 at *
    go_loopw [4, 5] (fun va vi wr => ∃ k : Nat, k ≤ l.length ∧ vi = .int .i64 (k : Nat) ∧ Hid (∀ j, j < k → okAt l j = true) ∧ Below w.heap.size w wr ∧ OwnB wr w.heap.size va (emitB (l.take k))) (fun _ vi _ => l.length - (intOf vi).toNat)
    case atStart => exact ⟨0, Nat.zero_le _, rfl, hide (fun j h => absurd h (Nat.not_lt_zero _)), B0, E0⟩
    case round =>
      obtain ⟨k, hk, rfl, HK, HB, HO⟩ := hrel
      clear E0 B0
      have HB2 := hide HB
      have HO2 := hide HO
      by_cases hlt : k < l.length
      · obtain ⟨x, hx⟩ := getO_some hlt
        obtain ⟨b, o, rfl, _, x1, x2⟩ := lstO_at (HV.out _ HB) hx
        have BX := hide (BoxO.new wr x)
        obtain ⟨y1, y2⟩ := BX.out.at
        have BA := below_alloc wr (.cells #[.int .u8 (x.1.toNat : Int), .string x.2] 47)
        have HB3 := hide (chain HB2.out BA)
        have HO3 := hide (own_keep HO2.out BA)
        have HX := hide hx
        clear HB HO BA
        obtain ⟨i, hi1, hi2, hi3⟩ := find_take hx
        have BAD := hide (fun (h : soundO x = false ∨ hasC x.1 (l.take k) = true) => emit_bad (by omega) hlt (bad_sound hx h))
        have PX := hide (fun W (H : Below w.heap.size w W) => (show Calls Try.prog 51 #[.slice (some ⟨b, o, none⟩) l.length c, KV x.1] W (Gives (.int .i64 (i : Nat)) W) by have := PL.out W x.1 H; rw [hi1] at this; exact this))
        have OKA := hide (ok_at hx)
        have HI2 := hide hi2
        clear hx hi1 hi2
        by_cases e0 : x.1 = 0
        · have F := hide (BAD.out (Or.inl (not_sound (Or.inl e0))))
          have P2 : ((x.1.toNat : Int) == 0) = true := by rw [e0]; rfl
          clear e0
          go_wp2
          go_ret2
          exact ⟨congrArg Ending.returned (tup2 (by rw [F.out.2]; rfl) (by rw [F.out.1]; rfl)), HB3.out⟩
        · have P2 : ¬ (x.1.toNat : Int) = 0 := byte_ne e0
          have P2b : ((x.1.toNat : Int) == 0) = false := beq_eq_false_iff_ne.2 P2
          by_cases e1 : x.1 = 255
          · have F := hide (BAD.out (Or.inl (not_sound (Or.inr (Or.inl e1)))))
            have P3 : ((x.1.toNat : Int) == 255) = true := by rw [e1]; rfl
            clear e0 e1
            go_wp2
            go_ret2
            exact ⟨congrArg Ending.returned (tup2 (by rw [F.out.2]; rfl) (by rw [F.out.1]; rfl)), HB3.out⟩
          · have P3 : ¬ (x.1.toNat : Int) = 255 := byte_ne e1
            have P3b : ((x.1.toNat : Int) == 255) = false := beq_eq_false_iff_ne.2 P3
            have N0 := hide e0
            have N1 := hide e1
            clear e0 e1
            go_wp2_with fail
            refine (PX.out _ HB3.out).mono ?_
            rintro e w2 ⟨rfl, hb2⟩
            have HB4 := hide (chain HB3.out hb2)
            have HO4 := hide (own_keep HO3.out hb2)
            have BX2 := hide (BX.out.step hb2)
            obtain ⟨z1, z2⟩ := BX2.out.at
            clear hb2 y1 y2
            by_cases hik : i < k
            · have F := hide (BAD.out (Or.inr (by rw [HI2.out]; exact decide_eq_true hik)))
              clear P2 P3
              go_wp2
              go_ret2
              exact ⟨congrArg Ending.returned (tup2 (by rw [F.out.2]; rfl) (by rw [F.out.1]; rfl)), HB4.out⟩
            · by_cases hsz : 4096 < x.2.size
              · have F := hide (BAD.out (Or.inl (not_sound (Or.inr (Or.inr hsz)))))
                have P5 : (4096 : Int) < (x.2.size : Int) := by omega
                clear P2 P3
                go_wp2
                go_ret2
                exact ⟨congrArg Ending.returned (tup2 (by rw [F.out.2]; rfl) (by rw [F.out.1]; rfl)), HB4.out⟩
              · have P5 : ¬ (4096 : Int) < (x.2.size : Int) := by omega
                have GOOD := hide (show okAt l k = true by
                  rw [OKA.out, HI2.out, decide_eq_false hik]
                  have : soundO x = true := by
                    unfold soundO
                    exact decide_eq_true ⟨N0.out, N1.out, by omega⟩
                  rw [this]; rfl)
                have ET := hide (emitB_take HX.out)
                have hBl : (emitB (l.take k)).length ≤ 1048832 := by
                  have := emitB_len (l.take k) (ok_size HK.out)
                  rw [List.length_take] at this
                  omega
                generalize emitB (l.take k) = B at *
                have hx4 : x.2.size ≤ 4096 := by omega
                clear P2 P3 BAD PX HB2 HO2 HB3 HO3 BX
                go_wp2_with fail
                generalize wr.heap.size = bx at *
                have O0 := HO4.out
                have X0 := BX2.out
                have W0 := HB4.out
                have N0w : w.heap.size ≤ w2.heap.size := HB4.out.size
                clear HO4 BX2
                go_loopw [4, 7] (fun va vr wq => ∃ (l2 : List UInt8) (d : ByteArray), vr = .string d ∧ d.size ≤ 4096 ∧ l2.length + 2 * d.size ≤ 1057024 ∧ Hid (l2 ++ pieces x.1 (lb d) = B ++ pieces x.1 (lb x.2)) ∧ OwnB wq w.heap.size va l2 ∧ Below w.heap.size w wq ∧ w.heap.size ≤ wq.heap.size ∧ BoxO bx x wq) (fun _ vr _ => match vr with | .string d => d.size | _ => 0)
                case atStart => exact ⟨B, x.2, rfl, hx4, by omega, hide rfl, O0, W0, N0w, X0⟩
                case round =>
                  obtain ⟨l2, d, rfl, hd, hl2, HE, HO, HB, hbw, HX5⟩ := hrel
                  clear O0 X0 W0 N0w z1 z2
                  have HX2 := hide HX5
                  have HO2 := hide HO
                  have HB2 := hide HB
                  obtain ⟨q1, q2⟩ := HX5.at
                  clear HX5 HO HB
                  by_cases h255 : 255 < d.size
                  · have Q1 : (255 : Int) < (d.size : Int) := by omega
                    have ES := hide (show lb (d.extract 255 d.size) = (lb d).drop 255 from size_of_bytes d 255 (by omega))
                    have EH := hide (show lb (d.extract 0 255) = (lb d).take 255 from head_of_bytes d 255)
                    have EP := hide (pieces_more (c := x.1) (d := lb d) (by rw [lb_len]; exact h255))
                    have ez : (d.extract 0 255).size = 255 := by simp; omega
                    have er : (d.extract 255 d.size).size = d.size - 255 := by simp
                    go_wp2_with (at_builtin; first | (refine wpList_append_bytes rfl (.tmp 49) (.tmp 52) rfl w.heap.size _ l2 rfl (own_keep HO2.out (below_alloc _ _)) wr.heap.size 2 [x.1, 255] rfl (cell_two_new _ _ _ _) (by simp) (by simp; omega) (Nat.le_trans hbw (below_alloc _ _).size) ?_; intro v3 w3 j1 j2 j3) | (refine wpList_append_B rfl (.tmp 54) (.tmp 56) rfl w.heap.size _ (l2 ++ [x.1, 255]) rfl j1 (d.extract 0 255) rfl (by rw [ez]; simp; omega) (Nat.le_trans hbw (Nat.le_trans (below_alloc _ _).size j2.size)) ?_; intro v4 w4 j4 j5 j6))
                    have c1 := (below_alloc wr (.cells #[.int .u8 (x.1.toNat : Int), .int .u8 255] 5)).mono hbw
                    have hO1 := own_keep HO2.out (below_alloc wr (.cells #[.int .u8 (x.1.toNat : Int), .int .u8 255] 5))
                    have hX1 := HX2.out.step (below_alloc wr (.cells #[.int .u8 (x.1.toNat : Int), .int .u8 255] 5))
                    have b1 := Nat.le_trans hbw c1.size
                    have c2 := below_grown b1 hO1 j2
                    have b2 := Nat.le_trans b1 c2.size
                    have c3 := below_grown b2 j1 j5
                    refine ⟨⟨_, _, rfl, by omega, ?_, hide ?_, j4, HB2.out.trans (c1.trans (c2.trans c3)), Nat.le_trans b2 c3.size, (hX1.grown hO1 j2).grown j1 j5⟩, ?_⟩
                    · rw [List.length_append, List.length_append, lb_len, ez, er]
                      simp only [List.length_cons, List.length_nil]
                      omega
                    · rw [ES.out, EH.out, ← HE.out, EP.out]
                      simp [List.append_assoc]
                    · show (d.extract 255 d.size).size < d.size
                      omega
                  · have Q1 : ¬ (255 : Int) < (d.size : Int) := by omega
                    have WR : IntKind.u8.wrap (d.size : Int) = (d.size : Int) := by rw [IntKind.wrap_u8]; omega
                    have EP := hide (pieces_last (c := x.1) (d := lb d) (by rw [lb_len]; exact h255))
                    rw [lb_len] at EP
                    have GK := hide (show ∀ j, j < k + 1 → okAt l j = true from fun j hj => by
                      by_cases e : j = k
                      · rw [e]; exact GOOD.out
                      · exact HK.out j (by omega))
                    go_wp2_with (at_builtin; first | (refine wpList_append_bytes rfl (.tmp 60) (.tmp 66) rfl w.heap.size _ l2 rfl (own_keep HO2.out (below_alloc _ _)) wr.heap.size 2 [x.1, UInt8.ofNat d.size] rfl (cell_two_num _ _ (by omega) _) (by simp) (by simp; omega) (Nat.le_trans hbw (below_alloc _ _).size) ?_; intro v3 w3 j1 j2 j3) | (refine wpList_append_B rfl (.tmp 68) (.tmp 69) rfl w.heap.size _ (l2 ++ [x.1, UInt8.ofNat d.size]) rfl j1 d rfl (by simp; omega) (Nat.le_trans hbw (Nat.le_trans (below_alloc _ _).size j2.size)) ?_; intro v4 w4 j4 j5 j6))
                    have c1 := (below_alloc wr (.cells #[.int .u8 (x.1.toNat : Int), .int .u8 (d.size : Int)] 5)).mono hbw
                    have hO1 := own_keep HO2.out (below_alloc wr (.cells #[.int .u8 (x.1.toNat : Int), .int .u8 (d.size : Int)] 5))
                    have b1 := Nat.le_trans hbw c1.size
                    have c2 := below_grown b1 hO1 j2
                    have b2 := Nat.le_trans b1 c2.size
                    have c3 := below_grown b2 j1 j5
                    have FB := hide (HB2.out.trans (c1.trans (c2.trans c3)))
                    have FO := hide (show OwnB w4 w.heap.size v4 (B ++ pieces x.1 (lb x.2)) by
                      rw [← HE.out, EP.out]
                      have e : l2 ++ [x.1, UInt8.ofNat d.size] ++ lb d = l2 ++ x.1 :: UInt8.ofNat d.size :: lb d := by simp
                      rw [← e]
                      exact j4)
                    clear j1 j2 j3 j4 j5 j6 c1 c2 c3 hO1
                    refine ⟨⟨k + 1, hlt, by go_num, GK, FB.out, by rw [ET.out]; exact FO.out⟩, ?_⟩
                    simp [intOf]; omega
      · have ek : k = l.length := by omega
        subst ek
        have GD := hide (emit_good (by omega) HK.out)
        have hBl : (emitB (l.take l.length)).length ≤ 70368744177664 := by
          have := emitB_len (l.take l.length) (ok_size HK.out)
          rw [List.take_length] at this ⊢
          omega
        rw [List.take_length] at HO2 hBl
        have W0 : w.heap.size ≤ wr.heap.size := HB.size
        generalize emitB l = B at *
        clear HB HO
        go_wp2_with (at_builtin; refine wpList_append_bytes rfl (.tmp 71) (.tmp 72) rfl w.heap.size _ B rfl (own_keep HO2.out (below_alloc _ _)) wr.heap.size 1 [255] rfl (cell_one_new _ _ _) (by simp) (by simp; omega) (Nat.le_trans W0 (below_alloc _ _).size) ?_; intro v3 w3 q1 q2 q3; obtain ⟨g3, c3, rfl, _, _⟩ := q1.form (by simp); have CV := conv_own q1; simp only [List.length_append, List.length_cons, List.length_nil, Nat.zero_add] at CV)
        go_ret2
        exact ⟨congrArg Ending.returned (tup2 (by rw [GD.out.2]; rfl) (by rw [GD.out.1]; rfl)), (HB2.out.trans ((below_alloc _ _).mono W0)).trans (below_grown (Nat.le_trans W0 (below_alloc _ _).size) (own_keep HO2.out (below_alloc _ _)) q2)⟩
end Go.Proofs.Ytmoklodaeicpgaa
