/-
  The contract of the document's own made. Conditions: the words are words of 64 bits; at most 200000 ranges in all.
-/
import Derived.Test.YtfmhpnendcikoaaGreatSpanMd
import Derived.Test.YtfmhpnendcikoaaGreatSpanFn
import Derived.Test.YtfmhpnendcikoaaGreatSpanAp
import Derived.Deep.AppendLies
import Derived.Deep.RegionLaw
import Derived.BigQuiet
import Derived.Deep.QuietTactic
namespace Go.Proofs.YtfmhpnendcikoaaGreat
open Go.RowKit Go.Joins

theorem cells4_one (x : Rg) : ∀ u ∈ cells4 x, u.oneCell' = true := fun u hu => cellsR_one [x] u (by simpa [cellsR] using hu)
theorem own_more {W : World} {base g c : Nat} {l : List Rg} {x : Rg} (h : W.ownsRow base 36 4 (.slice (some ⟨g, 0, none⟩) (l.length + 1) c) (l.length + 1) (cellsR l ++ cells4 x)) :
    Own W base (.slice (some ⟨g, 0, none⟩) (l.length + 1) c) (l ++ [x]) := by
  unfold Own
  rw [List.length_append, cellsR_append]
  have e : cellsR [x] = cells4 x := by simp [cellsR]
  rw [e]
  exact h
theorem cellA_get {W : World} {base : Nat} {p : Option Go.Addr} {n c : Nat} {E : List Nat} (h : OwnA W base (.slice p n c) E) {k s : Nat} (hk : E[k]? = some s) :
    ∃ g, p = some ⟨g, 0, none⟩ ∧ ∀ W', Below W.heap.size W W' → W'.cell? ⟨g, k * 2, none⟩ = some (.int .u64 (hi s : Nat)) ∧ W'.cell? ⟨g, k * 2 + 1, none⟩ = some (.int .u64 (lo s : Nat)) := by
  have hl : k < E.length := (List.getElem?_eq_some_iff.1 hk).1
  obtain ⟨g, cap, hgv, hbg, hgl⟩ := h.form (by omega)
  cases hgv
  exact ⟨g, rfl, fun W' H => ⟨keep_cell H ((h.cellAt (k * 2) (by omega)).trans (cellsA_at hk).1), keep_cell H ((h.cellAt (k * 2 + 1) (by omega)).trans (cellsA_at hk).2)⟩⟩
theorem ownBlock_lt {W w2 : World} {base n size : Nat} {e : TypeId} {v : Value} {xs : List Value} (h : W.ownsRow base e size v n xs) {r : Option Nat} (hb : W.grownBy w2 r) (hn : ∀ k, v.ownBlock = some k → some k ≠ r) : w2.ownsRow base e size v n xs := by
  obtain ⟨h1, h2⟩ := h
  refine ⟨h1, ?_⟩
  rcases h2 with ⟨rfl, h0⟩ | ⟨g, cap, cur, rfl, hb0, hg, hc, hm, hs, ht⟩
  · exact .inl ⟨rfl, h0⟩
  · have hlt : g < W.heap.size := by
      rcases Nat.lt_or_ge g W.heap.size with k | k
      · exact k
      · rw [Array.getElem?_eq_none k] at hg; cases hg
    exact .inr ⟨g, cap, cur, rfl, hb0, (hb.block g hlt (hn g rfl)).trans hg, hc, hm, hs, ht⟩
theorem grow_cell (W : World) (g j : Nat) (v : Value) : W.grownBy (W.setCell ⟨g, j, none⟩ v) (some g) :=
  ⟨rfl, rfl, rfl, by simp, fun k _ hne => Below.heap_setCell W ⟨g, j, none⟩ v k (fun e => hne (by rw [e]))⟩
theorem own_g9 {W : World} {base g9 : Nat} {v : Value} {l : List Rg} (h : Own W base v l) (hl : Hid (∀ k, v.ownBlock = some k → k < g9)) (x y : Value) : Own ((W.setCell ⟨g9, 0, none⟩ x).setCell ⟨g9, 1, none⟩ y) base v l :=
  ownBlock_lt (ownBlock_lt h (grow_cell W g9 0 x) (fun k e c => by have := hl.out k e; have := Option.some.inj c; omega)) (grow_cell _ g9 1 y) (fun k e c => by have := hl.out k e; have := Option.some.inj c; omega)
/-- what stands about a test in a round of made -/
def MW16 (w3 : World) (g9 q g11 n : Nat) (v : Value) (out : List Rg) (W : World) : Prop := Below w3.heap.size w3 W ∧ Two g9 q W ∧ Two g11 n W ∧ Own W w3.heap.size v out
theorem MW16.step {w3 : World} {g9 q g11 n : Nat} {v : Value} {out : List Rg} {W w2 : World} (h : MW16 w3 g9 q g11 n v out W) (hb : Below W.heap.size W w2) : MW16 w3 g9 q g11 n v out w2 :=
  ⟨chain h.1 hb, h.2.1.step hb, h.2.2.1.step hb, own_keep h.2.2.2 hb⟩
theorem own_set {W : World} {base g c j : Nat} {l : List Rg} {z : Rg} (h : Own W base (.slice (some ⟨g, 0, none⟩) l.length c) l) (hz : l[j]? = some z) (q : Nat) :
    ((W.setCell ⟨g, j * 4 + 2, none⟩ (.int .u64 (hi q : Nat))).setCell ⟨g, j * 4 + 2 + 1, none⟩ (.int .u64 (lo q : Nat))).ownsRow base 36 4 (.slice (some ⟨g, 0, none⟩) l.length c) l.length (cellsR (l.set j (z.1, q))) := by
  have h1 := (h.stored (j * 4 + 2) (.int .u64 (hi q : Nat))).1
  have h2 := (h1.stored (j * 4 + 3) (.int .u64 (lo q : Nat))).1
  rw [cellsR_set2 hz] at h2
  exact h2
/-- the last address of a range of a row of the call's own -/
theorem own_last {W : World} {base g c j : Nat} {l : List Rg} {z : Rg} (h : Own W base (.slice (some ⟨g, 0, none⟩) l.length c) l) (hz : l[j]? = some z) :
    W.cell? ⟨g, j * 4 + 2, none⟩ = some (.int .u64 (hi z.2 : Nat)) ∧ W.cell? ⟨g, j * 4 + 2 + 1, none⟩ = some (.int .u64 (lo z.2 : Nat)) := by
  have hl : j < l.length := (List.getElem?_eq_some_iff.1 hz).1
  exact ⟨(h.cellAt (j * 4 + 2) (by omega)).trans (cellsR_at hz 2 (by omega)), (h.cellAt (j * 4 + 3) (by omega)).trans (cellsR_at hz 3 (by omega))⟩
set_option maxRecDepth 100000 in
set_option maxHeartbeats 1000000 in
theorem rmade_any {vy vn : Value} {yes no : List Rg} (fy : FitL yes) (fn : FitL no) (hl : yes.length + no.length ≤ 200000) (w : World) (hy : Lst vy yes w) (hn : Lst vn no w) :
    Calls Tryz.prog 40 #[vy, vn] w (Makes (madeL yes no) w) := by
  obtain ⟨i0, hi0, hz0, hz1, hz2⟩ := info_parts infoR
  have fb := fit_append fy fn
  have lb : (yes ++ no).length ≤ 400000 := by rw [List.length_append]; omega
  obtain ⟨re, fe⟩ := edges_ris fb
  have le := edges_len (yes ++ no)
  rw [List.length_append] at le
  have EA := hide (fun W v H => redges_any (v := v) fb lb W H)
  have IY := hide (fun W a (fa : Fits a) H => rin_any (v := vy) (a := a) fy fa (by omega) W H)
  have IN := hide (fun W a (fa : Fits a) H => rin_any (v := vn) (a := a) fn fa (by omega) W H)
  have O0 := own_empty w
  have B0 := below_alloc w (.cells #[] 36)
  have Y0 := hy.step B0
  clear fb lb
  rw [show madeL yes no = madeF yes no (edgesL (yes ++ no)) [] from rfl]
  generalize hE : edgesL (yes ++ no) = E at *
  clear hE
  go_enter Tryz.func40, Tryz.ntmps40
  go_wp2_with (first
    | (at_builtin; refine wpList_append_lst rfl (.tmp 14) (.tmp 15) rfl w.heap.size _ [] rfl O0 _ yes rfl Y0 (by simp; omega) B0.size ?_; intro v1 w1 O1 HB1 _; have B1 := B0.trans HB1; have N1 := hn.step B1; rw [List.nil_append] at O1)
    | (at_builtin; refine wpList_append_lst rfl (.tmp 17) (.tmp 18) rfl w.heap.size _ yes rfl O1 _ no rfl N1 (by omega) B1.size ?_; intro v2 w2 O2 HB2 _; have B2 := B1.trans HB2; have Y2 := own_lst O2; clear O0 O1 B0 B1 HB1 HB2 N1 Y0))
  refine (EA.out _ _ Y2).mono ?_
  rintro e w3 ⟨ve, rfl, hb3, O3⟩
  have B3 := chain B2 hb3
  obtain ⟨pe, ce, rfl, ce1, ce2⟩ := lenA O3
  have R0 := own_empty w3
  have K0 := below_alloc w3 (.cells #[] 36)
  have Y3 := hide (hy.step B3)
  have N3 := hide (hn.step B3)
  have RA := hide (fun k s (h : E[k]? = some s) => cellA_get O3 h)
  clear hb3 O2 Y2 B2 hy hn EA O3
  go_wp2_with fail
  go_loopw [7, 8] (fun s7 i wr => ∃ (k : Nat) (out : List Rg), k ≤ E.length ∧ i = .int .i64 (k : Nat) ∧ Below w3.heap.size w3 wr ∧ Own wr w3.heap.size s7 out ∧ Hid (madeF yes no E [] = madeF yes no (E.drop k) out) ∧ Hid (FitL out) ∧ out.length ≤ k) (fun _ i _ => E.length - (intOf i).toNat)
  case atStart => exact ⟨0, [], Nat.zero_le _, rfl, K0, R0, hide rfl, hide (fun x h => by simp at h), Nat.le_refl _⟩
  case round =>
    obtain ⟨k, out, hk, rfl, HB, hown, G, FO, LO⟩ := hrel
    clear R0 K0
    by_cases hlt : k < E.length
    · obtain ⟨s, hs⟩ : ∃ s, E[k]? = some s := ⟨_, List.getElem?_eq_getElem hlt⟩
      have fs := fe s (List.mem_of_getElem? hs)
      obtain ⟨g, rfl, rg⟩ := RA.out k s hs
      have RG := hide rg
      have GN := hide (G.out.trans (made_next (yes := yes) (no := no) (out := out) hs))
      have KL : (k : Int) < (E.length : Int) := by omega
      have CY := hide (fun W (H : Below w3.heap.size w3 W) => IY.out W s fs (Y3.out.step H))
      have CN := hide (fun W (H : Below w3.heap.size w3 W) => IN.out W s fs (N3.out.step H))
      obtain ⟨r0, r1⟩ := rg wr HB
      clear rg G
      unfold keepB at GN
      generalize hyb : inL yes s = yb at *
      generalize hnb : inL no s = nb at *
      clear hyb hnb
      cases yb with
      | false =>
        clear CN IN N3 Y3 IY
        go_wp2_with fail
        refine (CY.out _ HB).mono ?_
        rintro e w4 ⟨rfl, hb4⟩
        have HB4 := chain HB hb4
        have own4 := own_keep hown hb4
        clear hown hb4 HB r0 r1
        go_wp2
        go_roundw
        case rel => exact ⟨k + 1, out, hlt, by go_num, HB4, own4, GN, FO, by omega⟩
        case measure => simp [intOf] <;> omega
      | true =>
        go_wp2_with fail
        refine (CY.out _ HB).mono ?_
        rintro e w4 ⟨rfl, hb4⟩
        have HB4 := chain HB hb4
        have own4 := own_keep hown hb4
        clear hown hb4 HB r0 r1
        obtain ⟨r0, r1⟩ := RG.out w4 HB4
        go_wp2_with fail
        refine (CN.out _ HB4).mono ?_
        rintro e w5 ⟨rfl, hb5⟩
        have HB5 := chain HB4 hb5
        have own5 := own_keep own4 hb5
        clear own4 hb5 HB4 r0 r1 CY CN IN N3 Y3 IY
        cases nb with
        | true =>
          go_wp2
          go_roundw
          case rel => exact ⟨k + 1, out, hlt, by go_num, HB5, own5, GN, FO, by omega⟩
          case measure => simp [intOf] <;> omega
        | false =>
          have T6 := two_new w5 340282366920938463463374607431768211455 31
          have B6 := HB5.alloc HB5.size (.cells #[.int .u64 18446744073709551615, .int .u64 18446744073709551615] 31)
          have own6 := own_keep own5 (below_alloc w5 (.cells #[.int .u64 18446744073709551615, .int .u64 18446744073709551615] 31))
          have O5 := hide (fun kb (h : u7.ownBlock = some kb) => (own5.lt kb h).2)
          have LZ := HB5.size
          clear own5 HB5
          have K2 : IntKind.i64.wrap ((k : Int) + 1) = (k : Int) + 1 := IntWalk.i64_in _ ⟨by omega, by omega⟩
          have K3 : ((k : Int) + 1).toNat = k + 1 := by omega
          have K4 : (0 : Int) ≤ (k : Int) + 1 := by omega
          go_upto_if 49 with fail
          go_cut [] (fun wx => ∃ q : Nat, Fits q ∧ Hid (q = segEnd (E.drop (k + 1))) ∧ Two w5.heap.size q wx ∧ Below w3.heap.size w3 wx ∧ Own wx w3.heap.size u7 out)
          case first =>
            by_cases hne : k + 1 < E.length
            · obtain ⟨t, ht⟩ : ∃ t, E[k + 1]? = some t := ⟨_, List.getElem?_eq_getElem hne⟩
              have ft := fe t (List.mem_of_getElem? ht)
              have SE := hide ((segEnd_some ht).trans (sub_one (ris_pos re ht) ft).symm)
              obtain ⟨g', eg, rt⟩ := RA.out (k + 1) t ht
              obtain rfl : g = g' := by injection eg with e1; injection e1
              clear eg
              have K1 : (k : Int) + 1 < (E.length : Int) := by omega
              rw [decide_eq_true K1]
              obtain ⟨r0, r1⟩ := rt _ B6
              have AH := hide (fun W => rahead_any ft W)
              have fsub := hide (fits_subS t 1)
              have T6' := hide T6
              have own6' := hide own6
              clear ht rt T6 own6
              go_wp2_with fail
              refine (AH.out _).mono ?_
              rintro e w7 ⟨rfl, hb7⟩
              have T7 := T6'.out.step hb7
              have B7 := chain B6 hb7
              have own7 := own_keep own6'.out hb7
              obtain ⟨_, _, _, z0, z1⟩ := two_cells T7
              clear r0 r1
              go_wp2_with fail
              go_meet
              exact ⟨_, fsub.out, hide (by rw [SE.out]), T7.put _, (B7.setCell (by dsimp only; omega) _).setCell (by dsimp only; omega) _, own_g9 own7 O5 _ _⟩
            · have SE := hide (segEnd_none (E := E) (k := k + 1) (by omega))
              have K1 : ¬ (k : Int) + 1 < (E.length : Int) := by omega
              rw [decide_eq_false K1]
              go_wp2_with fail
              go_meet
              exact ⟨ones, by unfold ones Fits; omega, hide (by rw [SE.out]), T6, B6, own6⟩
          case rest =>
            obtain ⟨q, fq, HQ, T9, HB9, own9⟩ := hcut
            clear T6 B6 own6
            generalize w5.heap.size = g9 at *
            have GN2 := hide (show madeF yes no E [] = madeF yes no (E.drop (k + 1)) (putSeg out s q) by rw [HQ.out]; exact GN.out)
            have LP := putSeg_len out s q
            have own9' := own9
            obtain ⟨p7, c7, rfl⟩ := lst_len (own_lst own9')
            clear own9' GN HQ K2 K3 K4 RA
            by_cases h0 : out.length = 0
            · obtain rfl := List.length_eq_zero_iff.1 h0
              have own9 : Own wc w3.heap.size (.slice p7 0 c7) [] := own9
              have K5 : ¬ (0 : Int) ≤ (([] : List Rg).length : Int) - 1 := by simp
              clear h0
              go_wp2_with fail
              obtain ⟨r0, r1⟩ := RG.out wc HB9
              obtain ⟨_, t0, t1, _, _⟩ := two_cells T9
              have NEWS := World.news_of_block (w := (wc.alloc (.cells #[.int .u64 (hi s : Nat), .int .u64 (lo s : Nat), .int .u64 (hi q : Nat), .int .u64 (lo q : Nat)] 36)).drew) (heap_alloc_new wc (.cells #[.int .u64 (hi s : Nat), .int .u64 (lo s : Nat), .int .u64 (hi q : Nat), .int .u64 (lo q : Nat)] 36))
              have GN3 := hide (show madeF yes no E [] = madeF yes no (E.drop (k + 1)) (([] : List Rg) ++ [(s, q)]) by rw [GN2.out, putSeg_nil]; rfl)
              have FO2 := hide (show FitL (([] : List Rg) ++ [(s, q)]) from fit_append FO.out (fun x hx => by rw [List.mem_singleton.1 hx]; exact ⟨fs, fq⟩))
              have zb := HB9.size
              go_region_law ((refine step_append_lies _ rfl (.tmp 87) (.tmp 94) 22 rfl w3.heap.size 36 i0 (.agg #[.int .u64 0, .int .u64 0, .int .u64 0, .int .u64 0]) 4 32 Tryz.underlying22 hi0 hz0 hz1 hz2 rfl (by decide) (.slice p7 0 c7) 0 (cellsR ([] : List Rg)) (by simp [Act.eval]) ((own9.alloc _).drew) ⟨wc.heap.size, 0, none⟩ 1 1 (cells4 (s, q)) (by simp [Act.eval]) rfl NEWS (cells4_one (s, q)) (by omega) (by unfold maxLen; omega) (by omega) (by simp; omega) (wc.heap.size + 1) (by simp) ?_; intro g2 cap2 w6 own6 hgrow6 hat hlt2))
              all_goals
                have HB7 := ((HB9.alloc HB9.size _).drew).grown hgrow6 (by simp; omega) (fun j hj => (own9.lt j hj).1)
                have HO6 := own_more own6
                clear r0 r1 t0 t1 own6 hgrow6 hat hlt2 NEWS
                go_wp2
                go_roundw
                case rel => exact ⟨k + 1, ([] : List Rg) ++ [(s, q)], hlt, by go_num, HB7, HO6, GN3, FO2, by rw [List.length_append]; show ([] : List Rg).length + 1 ≤ k + 1; omega⟩
                case measure => simp [intOf] <;> omega
            · obtain ⟨jj, hjj⟩ : ∃ jj, out.length = jj + 1 := ⟨out.length - 1, by omega⟩
              obtain ⟨z, hz⟩ := get_some (show jj < out.length by omega)
              have fz := FO.out z (List.mem_of_getElem? hz)
              obtain ⟨g7, c8, e7, hbg, hgl⟩ := own9.form (by omega)
              obtain ⟨rfl, rfl⟩ : p7 = some ⟨g7, 0, none⟩ ∧ c7 = c8 := by injection e7 with a1 a2 a3; exact ⟨a1, a3⟩
              clear e7
              have K5 : (out.length : Int) - 1 = (jj : Int) := by omega
              have K6 : (jj : Int) < (out.length : Int) := by omega
              have HJ := hide hjj
              clear hjj
              have LQ := hide (fun W (h : Own W w3.heap.size (.slice (some ⟨g7, 0, none⟩) out.length c7) out) => own_last h hz)
              obtain ⟨l0, l1⟩ := LQ.out _ own9
              have NX := hide (fun W => rnext_any fz.2 W)
              go_wp2_with fail
              refine (NX.out _).mono ?_
              rintro e w7 ⟨rfl, hb7⟩
              have T7 := T9.step hb7
              have B7 := chain HB9 hb7
              have own7 := own_keep own9 hb7
              have fn1 := fits_addS1 z.2 1
              clear l0 l1 T9 HB9 own9 hb7 NX
              have T8 := T7.step (below_alloc w7 (.cells #[.int .u64 (hi (addS z.2 1) : Nat), .int .u64 (lo (addS z.2 1) : Nat)] 31))
              have B8 := B7.alloc B7.size (.cells #[.int .u64 (hi (addS z.2 1) : Nat), .int .u64 (lo (addS z.2 1) : Nat)] 31)
              have own8 := own_keep own7 (below_alloc w7 (.cells #[.int .u64 (hi (addS z.2 1) : Nat), .int .u64 (lo (addS z.2 1) : Nat)] 31))
              obtain ⟨r0, r1⟩ := RG.out _ B8
              have Y8 := two_new w7 (addS z.2 1) 31
              clear T7 B7 own7
              go_upto_region 16 with fail
              generalize w7.heap.size = g11 at *
              generalize w7.alloc (.cells #[.int .u64 (hi (addS z.2 1) : Nat), .int .u64 (lo (addS z.2 1) : Nat)] 31) = w8 at *
              have H8 : MW16 w3 g9 q g11 (addS z.2 1) (.slice (some ⟨g7, 0, none⟩) out.length c7) out w8.drew := ⟨B8.drew, T8.step (below_drew _), Y8.step (below_drew _), own_keep own8 (below_drew _)⟩
              clear B8 T8 own8 r0 r1 Y8
              generalize hn : addS z.2 1 = n at *
              by_cases ho : addO z.2 1 = true
              · have PS := hide (putSeg_more (e := q) fs HJ.out hz (by rw [ho]; simp))
                rw [ho, Bool.not_true]
                clear hn ho
                go_wp2_with fail
                refine wp_region_quiet (C := MW16 w3 g9 q g11 n (.slice (some ⟨g7, 0, none⟩) out.length c7) out) (by kernel_rfl) (by kernel_rfl) H8 (wpQuiet_step (fun K0 hK0 => ?_))
                go_simp
                first | (with_reducible refine hK0 _ (wpQuiet_step (fun K1 hK1 => ?_))) | (with_reducible refine ⟨_, fun _ _ => rfl, hK0 _ (wpQuiet_step (fun K1 hK1 => ?_))⟩) | (rw [if_neg (by intro e; cases e)]; with_reducible refine hK0 _ (wpQuiet_step (fun K1 hK1 => ?_)))
                clear hK0 K0
                go_simp
                first | (with_reducible refine hK1 _ (wpQuiet_step (fun K0 hK0 => ?_))) | (with_reducible refine ⟨_, fun _ _ => rfl, hK1 _ (wpQuiet_step (fun K0 hK0 => ?_))⟩) | (rw [if_neg (by intro e; cases e)]; with_reducible refine hK1 _ (wpQuiet_step (fun K0 hK0 => ?_)))
                clear hK1 K1
                go_simp
                first | (with_reducible refine hK0 _ (wpQuiet_step (fun K1 hK1 => ?_))) | (with_reducible refine ⟨_, fun _ _ => rfl, hK0 _ (wpQuiet_step (fun K1 hK1 => ?_))⟩) | (rw [if_neg (by intro e; cases e)]; with_reducible refine hK0 _ (wpQuiet_step (fun K1 hK1 => ?_)))
                clear hK0 K0
                go_simp
                first | (with_reducible refine hK1 _ (wpQuiet_step (fun K0 hK0 => ?_))) | (with_reducible refine ⟨_, fun _ _ => rfl, hK1 _ (wpQuiet_step (fun K0 hK0 => ?_))⟩) | (rw [if_neg (by intro e; cases e)]; with_reducible refine hK1 _ (wpQuiet_step (fun K0 hK0 => ?_)))
                clear hK1 K1
                go_simp
                first | (with_reducible refine hK0 _ (wpQuiet_step (fun K1 hK1 => ?_))) | (with_reducible refine ⟨_, fun _ _ => rfl, hK0 _ (wpQuiet_step (fun K1 hK1 => ?_))⟩) | (rw [if_neg (by intro e; cases e)]; with_reducible refine hK0 _ (wpQuiet_step (fun K1 hK1 => ?_)))
                clear hK0 K0
                go_simp
                first | (with_reducible refine hK1 _ (wpQuiet_step (fun K0 hK0 => ?_))) | (with_reducible refine ⟨_, fun _ _ => rfl, hK1 _ (wpQuiet_step (fun K0 hK0 => ?_))⟩) | (rw [if_neg (by intro e; cases e)]; with_reducible refine hK1 _ (wpQuiet_step (fun K0 hK0 => ?_)))
                clear hK1 K1
                go_simp
                first | (with_reducible refine hK0 _ (wpQuiet_step (fun K1 hK1 => ?_))) | (with_reducible refine ⟨_, fun _ _ => rfl, hK0 _ (wpQuiet_step (fun K1 hK1 => ?_))⟩) | (rw [if_neg (by intro e; cases e)]; with_reducible refine hK0 _ (wpQuiet_step (fun K1 hK1 => ?_)))
                clear hK0 K0
                go_simp
                first | (with_reducible refine hK1 _ (wpQuiet_step (fun K0 hK0 => ?_))) | (with_reducible refine ⟨_, fun _ _ => rfl, hK1 _ (wpQuiet_step (fun K0 hK0 => ?_))⟩) | (rw [if_neg (by intro e; cases e)]; with_reducible refine hK1 _ (wpQuiet_step (fun K0 hK0 => ?_)))
                clear hK1 K1
                go_simp
                first | (with_reducible refine hK0 _ (wpQuiet_nil ?_)) | (with_reducible refine ⟨_, fun _ _ => rfl, hK0 _ (wpQuiet_nil ?_)⟩) | (rw [if_neg (by intro e; cases e)]; with_reducible refine hK0 _ (wpQuiet_nil ?_))
                clear hK0 K0
                intro w9 H9
                have B9 := H9.1
                have T9 := H9.2.1
                have own9 := H9.2.2.2
                clear H8 H9
                have PS9 := PS
                go_wp2_with fail
                obtain ⟨r0, r1⟩ := RG.out w9 B9
                obtain ⟨_, t0, t1, _, _⟩ := two_cells T9
                have NEWS := World.news_of_block (w := (w9.alloc (.cells #[.int .u64 (hi s : Nat), .int .u64 (lo s : Nat), .int .u64 (hi q : Nat), .int .u64 (lo q : Nat)] 36)).drew) (heap_alloc_new w9 (.cells #[.int .u64 (hi s : Nat), .int .u64 (lo s : Nat), .int .u64 (hi q : Nat), .int .u64 (lo q : Nat)] 36))
                have GN3 := hide (show madeF yes no E [] = madeF yes no (E.drop (k + 1)) (out ++ [(s, q)]) by rw [GN2.out, PS9.out])
                have FO2 := hide (show FitL (out ++ [(s, q)]) from fit_append FO.out (fun x hx => by rw [List.mem_singleton.1 hx]; exact ⟨fs, fq⟩))
                have zb := B9.size
                go_region_law ((refine step_append_lies _ rfl (.tmp 87) (.tmp 94) 22 rfl w3.heap.size 36 i0 (.agg #[.int .u64 0, .int .u64 0, .int .u64 0, .int .u64 0]) 4 32 Tryz.underlying22 hi0 hz0 hz1 hz2 rfl (by decide) (.slice (some ⟨g7, 0, none⟩) out.length c7) out.length (cellsR out) (by simp [Act.eval]) ((own9.alloc _).drew) ⟨w9.heap.size, 0, none⟩ 1 1 (cells4 (s, q)) (by simp [Act.eval]) rfl NEWS (cells4_one (s, q)) (by omega) (by unfold maxLen; omega) (by omega) (by simp; omega) (w9.heap.size + 1) (by simp) ?_; intro g2 cap2 w6 own6 hgrow6 hat hlt2))
                all_goals
                  have HB7 := ((B9.alloc B9.size _).drew).grown hgrow6 (by simp; omega) (fun j hj => (own9.lt j hj).1)
                  have HO6 := own_more own6
                  clear r0 r1 t0 t1 own6 hgrow6 hat hlt2 NEWS
                  go_wp2
                  go_roundw
                  case rel => exact ⟨k + 1, out ++ [(s, q)], hlt, by go_num, HB7, HO6, GN3, FO2, by rw [List.length_append]; show out.length + 1 ≤ k + 1; omega⟩
                  case measure => simp [intOf] <;> omega
              · have ho' : addO z.2 1 = false := by simpa using ho
                rw [ho', Bool.not_false]
                by_cases hsn : n = s
                · have PS := hide (putSeg_join (e := q) HJ.out hz ho' (hn.trans hsn))
                  subst hsn
                  clear hn ho ho'
                  go_wp2_with fail
                  refine wp_region_quiet (C := MW16 w3 g9 q g11 n (.slice (some ⟨g7, 0, none⟩) out.length c7) out) (by kernel_rfl) (by kernel_rfl) H8 (wpQuiet_step (fun K0 hK0 => ?_))
                  go_simp
                  first | (with_reducible refine hK0 _ (wpQuiet_step (fun K1 hK1 => ?_))) | (with_reducible refine ⟨_, fun _ _ => rfl, hK0 _ (wpQuiet_step (fun K1 hK1 => ?_))⟩) | (rw [if_neg (by intro e; cases e)]; with_reducible refine hK0 _ (wpQuiet_step (fun K1 hK1 => ?_)))
                  clear hK0 K0
                  go_simp
                  first | (with_reducible refine hK1 _ (wpQuiet_step (fun K0 hK0 => ?_))) | (with_reducible refine ⟨_, fun _ _ => rfl, hK1 _ (wpQuiet_step (fun K0 hK0 => ?_))⟩) | (rw [if_neg (by intro e; cases e)]; with_reducible refine hK1 _ (wpQuiet_step (fun K0 hK0 => ?_)))
                  clear hK1 K1
                  go_simp
                  refine ⟨A n, fun W hW => ?_, hK0 _ (wpQuiet_step (fun K1 hK1 => ?_))⟩
                  · (obtain ⟨_, _, ⟨_, u0, u1, _⟩, _⟩ := hW; simp [go_sem, u0, u1])
                  clear hK0 K0
                  go_simp
                  first | (with_reducible refine hK1 _ (wpQuiet_step (fun K0 hK0 => ?_))) | (with_reducible refine ⟨_, fun _ _ => rfl, hK1 _ (wpQuiet_step (fun K0 hK0 => ?_))⟩) | (rw [if_neg (by intro e; cases e)]; with_reducible refine hK1 _ (wpQuiet_step (fun K0 hK0 => ?_)))
                  clear hK1 K1
                  go_simp
                  first | (with_reducible refine hK0 _ (wpQuiet_step (fun K1 hK1 => ?_))) | (with_reducible refine ⟨_, fun _ _ => rfl, hK0 _ (wpQuiet_step (fun K1 hK1 => ?_))⟩) | (rw [if_neg (by intro e; cases e)]; with_reducible refine hK0 _ (wpQuiet_step (fun K1 hK1 => ?_)))
                  clear hK0 K0
                  go_simp
                  first | (with_reducible refine hK1 _ (wpQuiet_step (fun K0 hK0 => ?_))) | (with_reducible refine ⟨_, fun _ _ => rfl, hK1 _ (wpQuiet_step (fun K0 hK0 => ?_))⟩) | (rw [if_neg (by intro e; cases e)]; with_reducible refine hK1 _ (wpQuiet_step (fun K0 hK0 => ?_)))
                  clear hK1 K1
                  go_simp
                  refine ⟨A n, fun W hW => ?_, hK0 _ (wpQuiet_step (fun K1 hK1 => ?_))⟩
                  · (obtain ⟨u0, u1⟩ := RG.out W hW.1; simp [go_sem, u0, u1])
                  clear hK0 K0
                  go_simp
                  first | (with_reducible refine hK1 _ (wpQuiet_step (fun K0 hK0 => ?_))) | (with_reducible refine ⟨_, fun _ _ => rfl, hK1 _ (wpQuiet_step (fun K0 hK0 => ?_))⟩) | (rw [if_neg (by intro e; cases e)]; with_reducible refine hK1 _ (wpQuiet_step (fun K0 hK0 => ?_)))
                  clear hK1 K1
                  go_simp
                  first | (with_reducible refine hK0 _ (wpQuiet_nil ?_)) | (with_reducible refine ⟨_, fun _ _ => rfl, hK0 _ (wpQuiet_nil ?_)⟩) | (rw [if_neg (by intro e; cases e)]; with_reducible refine hK0 _ (wpQuiet_nil ?_))
                  clear hK0 K0
                  intro w9 H9
                  have B9 := H9.1
                  have own9 := H9.2.2.2
                  obtain ⟨_, t0, t1, _, _⟩ := two_cells H9.2.1
                  obtain ⟨l0, l1⟩ := LQ.out _ own9
                  have z0 := own9.frozenAt (jj * 4 + 2)
                  have z1 := own9.frozenAt (jj * 4 + 2 + 1)
                  have GN3 := hide (show madeF yes no E [] = madeF yes no (E.drop (k + 1)) (out.set jj (z.1, q)) by rw [GN2.out, PS.out])
                  have FO2 := hide (show FitL (out.set jj (z.1, q)) from fun x hx => (List.mem_or_eq_of_mem_set hx).elim (FO.out x) (fun e => by rw [e]; exact ⟨fz.1, fq⟩))
                  have HO9 := hide (own_set own9 hz q)
                  have zb := B9.size
                  clear H8 H9 own9
                  go_wp2
                  go_roundw
                  case rel => exact ⟨k + 1, out.set jj (z.1, q), hlt, by go_num, (B9.setCell (by dsimp only; omega) _).setCell (by dsimp only; omega) _, by unfold Own; rw [List.length_set]; exact HO9.out, GN3, FO2, by rw [List.length_set]; omega⟩
                  case measure => simp [intOf] <;> omega
                · have PS := hide (putSeg_more (e := q) fs HJ.out hz (by rintro ⟨_, h⟩; exact hsn (hn.symm.trans h)))
                  have NE : (¬ hi n = hi s) ∨ (hi n = hi s ∧ ¬ lo n = lo s) := by by_cases e1 : hi n = hi s; exact Or.inr ⟨e1, fun e2 => hsn (words_eq e1 e2)⟩; exact Or.inl e1
                  have DN := hide NE
                  clear NE hsn hn ho ho'
                  go_wp2_with fail
                  refine wp_region_quiet (C := MW16 w3 g9 q g11 n (.slice (some ⟨g7, 0, none⟩) out.length c7) out) (by kernel_rfl) (by kernel_rfl) H8 (wpQuiet_step (fun K0 hK0 => ?_))
                  go_simp
                  first | (with_reducible refine hK0 _ (wpQuiet_step (fun K1 hK1 => ?_))) | (with_reducible refine ⟨_, fun _ _ => rfl, hK0 _ (wpQuiet_step (fun K1 hK1 => ?_))⟩) | (rw [if_neg (by intro e; cases e)]; with_reducible refine hK0 _ (wpQuiet_step (fun K1 hK1 => ?_)))
                  clear hK0 K0
                  go_simp
                  first | (with_reducible refine hK1 _ (wpQuiet_step (fun K0 hK0 => ?_))) | (with_reducible refine ⟨_, fun _ _ => rfl, hK1 _ (wpQuiet_step (fun K0 hK0 => ?_))⟩) | (rw [if_neg (by intro e; cases e)]; with_reducible refine hK1 _ (wpQuiet_step (fun K0 hK0 => ?_)))
                  clear hK1 K1
                  go_simp
                  refine ⟨A n, fun W hW => ?_, hK0 _ (wpQuiet_step (fun K1 hK1 => ?_))⟩
                  · (obtain ⟨_, _, ⟨_, u0, u1, _⟩, _⟩ := hW; simp [go_sem, u0, u1])
                  clear hK0 K0
                  go_simp
                  first | (with_reducible refine hK1 _ (wpQuiet_step (fun K0 hK0 => ?_))) | (with_reducible refine ⟨_, fun _ _ => rfl, hK1 _ (wpQuiet_step (fun K0 hK0 => ?_))⟩) | (rw [if_neg (by intro e; cases e)]; with_reducible refine hK1 _ (wpQuiet_step (fun K0 hK0 => ?_)))
                  clear hK1 K1
                  go_simp
                  first | (with_reducible refine hK0 _ (wpQuiet_step (fun K1 hK1 => ?_))) | (with_reducible refine ⟨_, fun _ _ => rfl, hK0 _ (wpQuiet_step (fun K1 hK1 => ?_))⟩) | (rw [if_neg (by intro e; cases e)]; with_reducible refine hK0 _ (wpQuiet_step (fun K1 hK1 => ?_)))
                  clear hK0 K0
                  go_simp
                  first | (with_reducible refine hK1 _ (wpQuiet_step (fun K0 hK0 => ?_))) | (with_reducible refine ⟨_, fun _ _ => rfl, hK1 _ (wpQuiet_step (fun K0 hK0 => ?_))⟩) | (rw [if_neg (by intro e; cases e)]; with_reducible refine hK1 _ (wpQuiet_step (fun K0 hK0 => ?_)))
                  clear hK1 K1
                  go_simp
                  refine ⟨A s, fun W hW => ?_, hK0 _ (wpQuiet_step (fun K1 hK1 => ?_))⟩
                  · (obtain ⟨u0, u1⟩ := RG.out W hW.1; simp [go_sem, u0, u1])
                  clear hK0 K0
                  go_simp
                  refine ⟨.bool false, fun W hW => ?_, hK1 _ (wpQuiet_step (fun K0 hK0 => ?_))⟩
                  · ((rcases DN.out with h1 | ⟨h1, h2⟩; (rw [if_neg (by omega)]; exact ⟨rfl, rfl⟩); (rw [if_pos (by omega), if_neg (by omega)]; exact ⟨rfl, rfl⟩)))
                  clear hK1 K1
                  go_simp
                  first | (with_reducible refine hK0 _ (wpQuiet_nil ?_)) | (with_reducible refine ⟨_, fun _ _ => rfl, hK0 _ (wpQuiet_nil ?_)⟩) | (rw [if_neg (by intro e; cases e)]; with_reducible refine hK0 _ (wpQuiet_nil ?_))
                  clear hK0 K0
                  intro w9 H9
                  have B9 := H9.1
                  have T9 := H9.2.1
                  have own9 := H9.2.2.2
                  clear H8 H9
                  have PS9 := PS
                  go_wp2_with fail
                  obtain ⟨r0, r1⟩ := RG.out w9 B9
                  obtain ⟨_, t0, t1, _, _⟩ := two_cells T9
                  have NEWS := World.news_of_block (w := (w9.alloc (.cells #[.int .u64 (hi s : Nat), .int .u64 (lo s : Nat), .int .u64 (hi q : Nat), .int .u64 (lo q : Nat)] 36)).drew) (heap_alloc_new w9 (.cells #[.int .u64 (hi s : Nat), .int .u64 (lo s : Nat), .int .u64 (hi q : Nat), .int .u64 (lo q : Nat)] 36))
                  have GN3 := hide (show madeF yes no E [] = madeF yes no (E.drop (k + 1)) (out ++ [(s, q)]) by rw [GN2.out, PS9.out])
                  have FO2 := hide (show FitL (out ++ [(s, q)]) from fit_append FO.out (fun x hx => by rw [List.mem_singleton.1 hx]; exact ⟨fs, fq⟩))
                  have zb := B9.size
                  go_region_law ((refine step_append_lies _ rfl (.tmp 87) (.tmp 94) 22 rfl w3.heap.size 36 i0 (.agg #[.int .u64 0, .int .u64 0, .int .u64 0, .int .u64 0]) 4 32 Tryz.underlying22 hi0 hz0 hz1 hz2 rfl (by decide) (.slice (some ⟨g7, 0, none⟩) out.length c7) out.length (cellsR out) (by simp [Act.eval]) ((own9.alloc _).drew) ⟨w9.heap.size, 0, none⟩ 1 1 (cells4 (s, q)) (by simp [Act.eval]) rfl NEWS (cells4_one (s, q)) (by omega) (by unfold maxLen; omega) (by omega) (by simp; omega) (w9.heap.size + 1) (by simp) ?_; intro g2 cap2 w6 own6 hgrow6 hat hlt2))
                  all_goals
                    have HB7 := ((B9.alloc B9.size _).drew).grown hgrow6 (by simp; omega) (fun j hj => (own9.lt j hj).1)
                    have HO6 := own_more own6
                    clear r0 r1 t0 t1 own6 hgrow6 hat hlt2 NEWS
                    go_wp2
                    go_roundw
                    case rel => exact ⟨k + 1, out ++ [(s, q)], hlt, by go_num, HB7, HO6, GN3, FO2, by rw [List.length_append]; show out.length + 1 ≤ k + 1; omega⟩
                    case measure => simp [intOf] <;> omega
    · have EE := hide (show madeF yes no E [] = out by rw [G.out]; exact made_end (by omega))
      have KL : ¬ (k : Int) < (E.length : Int) := by omega
      go_wp2
      go_ret
      refine ⟨_, rfl, (B3.trans (HB.mono B3.size)), ?_⟩
      rw [EE.out]
      exact own_base hown B3.size
end Go.Proofs.YtfmhpnendcikoaaGreat
