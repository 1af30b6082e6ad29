/-
  The contract of Encode. Condition: a row of options takes at most 2^47 bytes.
-/
import Derived.Test.YtmoklodaeicpgaaWE
namespace Go.Proofs.Ytmoklodaeicpgaa
open Go.RowKit Go.Joins

theorem emitS_len (l : List Opt) : (emitS l).length ≤ 1048833 := by
  unfold emitS
  by_cases h : emitE l = 0
  · rw [if_pos h]
    obtain ⟨h1, h2⟩ := emitE_zero h
    have := emitB_len l (fun x hx => by
      obtain ⟨j, hj, rfl⟩ := List.getElem_of_mem hx
      have := (emitOk_iff.1 h2 j _ (List.getElem?_eq_getElem hj)).1
      unfold soundO at this
      rw [decide_eq_true_eq] at this
      exact this.2.2)
    rw [List.length_append, List.length_cons, List.length_nil]
    omega
  · rw [if_neg h]; simp
def partsF (m : Hd) (k : Nat) : List ByteArray := (m.fs.take k).map (fun f => bs f.bytes)
theorem parts_next {m : Hd} {k : Nat} {f : Fv} (h : m.fs[k]? = some f) : partsF m (k + 1) = partsF m k ++ [bs f.bytes] := by
  unfold partsF
  rw [List.take_add_one, h, List.map_append]; rfl
theorem parts_len (m : Hd) (k : Nat) (hk : k ≤ 14) : (partsF m k).length = k := by
  unfold partsF
  rw [List.length_map, List.length_take, Hd.fs_len]; omega
theorem parts_all (m : Hd) (l : List Opt) : ((partsF m 14 ++ [bs cookieL, bs (emitS l)]).map lb).flatten = encL (m, l) := by
  have e : partsF m 14 = m.fs.map (fun f => bs f.bytes) := rfl
  rw [e, List.map_append, List.map_map, List.flatten_append]
  have : (lb ∘ fun f : Fv => bs f.bytes) = Fv.bytes := by funext f; exact lb_bs _
  rw [this]
  show (m.fs.map Fv.bytes).flatten ++ ([lb (bs cookieL), lb (bs (emitS l))]).flatten = _
  rw [lb_bs, lb_bs]
  unfold encL bytesF
  rw [List.flatMap_def]
  simp
/-- the memory of the loop over a message's fields -/
def EnI (m : Hd) (v : Value) (w : World) (b g k : Nat) (va : Value) (W : World) : Prop := Below w.heap.size w W ∧ BoxM b m v W ∧ RowP b g W ∧ OwnS W w.heap.size va (partsF m k)
theorem EnI.step {m : Hd} {v : Value} {w : World} {b g k : Nat} {va : Value} {W W2 : World} (h : EnI m v w b g k va W) (hb : Below W.heap.size W W2) : EnI m v w b g k va W2 :=
  ⟨chain h.1 hb, h.2.1.step hb, h.2.2.1.step hb, h.2.2.2.step hb⟩
theorem BoxM.field {b : Nat} {m : Hd} {v : Value} {W : World} (h : BoxM b m v W) {k : Nat} {f : Fv} (hk : m.fs[k]? = some f) : W.cell? ⟨b, k, none⟩ = some f.val := (BoxF.at (fs := m.fs) h hk).1
theorem ownS_block {W : World} {base : Nat} {v : Value} {l : List ByteArray} (h : OwnS W base v l) {k : Nat} (hk : v.ownBlock = some k) : ∃ cur, W.heap[k]? = some (.cells cur 9 (0, 0)) := by
  rcases h.2 with ⟨rfl, _⟩ | ⟨g, cap, cur, rfl, _, hg, _⟩
  · cases hk
  · cases hk; exact ⟨cur, hg⟩
theorem ownS_ne {W : World} {base : Nat} {v : Value} {l : List ByteArray} (h : OwnS W base v l) {k : Nat} {cs : Array Value} {t : TypeId} (hk : W.heap[k]? = some (.cells cs t (0, 0))) (ht : t ≠ 9) : v.ownBlock ≠ some k := by
  intro e
  obtain ⟨cur, hc⟩ := ownS_block h e
  rw [hk] at hc
  injection hc with hc
  injection hc with _ hc _
  exact ht hc
theorem grown_keep {W W2 : World} {base : Nat} {v : Value} {l : List ByteArray} (h : OwnS W base v l) (hg : W.grownBy W2 v.ownBlock) {k : Nat} {cs : Array Value} {t : TypeId} (hk : W.heap[k]? = some (.cells cs t (0, 0))) (ht : t ≠ 9) : W2.heap[k]? = some (.cells cs t (0, 0)) :=
  (hg.block k (lt_of_block hk) (fun e => ownS_ne h hk ht e.symm)).trans hk
def EncP (m : Ms) (w : World) (e : Ending) (w2 : World) : Prop := e = .returned (.tuple #[.string (bs (encS m)), .int .i64 (encE m : Nat)]) ∧ Below w.heap.size w w2
theorem enc_cases (m : Ms) : (soundM m = false ∧ encE m = 141 ∧ encS m = []) ∨ (soundM m = true ∧ 65507 < (encL m).length ∧ encE m = 6 ∧ encS m = []) ∨ (soundM m = true ∧ ¬ 65507 < (encL m).length ∧ encE m = 0 ∧ encS m = encL m) := by
  cases hs : soundM m with
  | false =>
    have e : encE m = 141 := by unfold encE; rw [hs]; rfl
    exact Or.inl ⟨rfl, e, by unfold encS; rw [e]; rfl⟩
  | true =>
    by_cases hl : 65507 < (encL m).length
    · have e : encE m = 6 := by unfold encE; rw [if_pos hs, if_pos hl]
      exact Or.inr (Or.inl ⟨rfl, hl, e, by unfold encS; rw [e]; rfl⟩)
    · have e : encE m = 0 := by unfold encE; rw [if_pos hs, if_neg hl]
      exact Or.inr (Or.inr ⟨rfl, hl, e, by unfold encS; rw [e]; rfl⟩)
set_option maxRecDepth 100000 in
set_option maxHeartbeats 4000000 in
theorem encode_any (m : Hd) {v : Value} {l : List Opt} (hl : l.length * 24 ≤ 140737488355328) (w : World) (hv : LstO v l w) :
    Calls Try.prog 12 #[MV m v] w (EncP (m, l) w) := by
  have B0 := hide (box_new w m v)
  have SD := hide (fun W (h : LstO v l W) => msound_any m hl W h)
  have HV := hide (fun W (H : Below w.heap.size w W) => hv.step H)
  have HB := hide (below_alloc w (.cells (cellsM m v) 26))
  clear hv
  rcases enc_cases (m, l) with ⟨hs, he, ht⟩ | hgood
  · rw [hs] at SD
    have HE := hide he
    have HT := hide ht
    clear hs he ht
    go_enter Try.func12, Try.ntmps12
    go_wp2_with (refine wpList_load_box rfl (.tmp 1) rfl w.heap.size m v rfl B0.out ?_)
    refine (SD.out _ (HV.out _ HB.out)).mono ?_
    rintro e w2 ⟨rfl, hb2⟩
    have D2 := hide (HB.out.trans (hb2.mono HB.out.size))
    clear hb2
    go_wp2
    go_ret2
    exact ⟨congrArg Ending.returned (tup2 (by rw [HT.out]; rfl) (by rw [HE.out]; rfl)), D2.out⟩
  · have hs : soundM (m, l) = true := by rcases hgood with h | h <;> exact h.1
    rw [hs] at SD
    have HG := hide (show (65507 < (encL (m, l)).length ∧ encE (m, l) = 6 ∧ encS (m, l) = []) ∨ (¬ 65507 < (encL (m, l)).length ∧ encE (m, l) = 0 ∧ encS (m, l) = encL (m, l)) by rcases hgood with h | h; exact Or.inl h.2; exact Or.inr h.2)
    have LE := hide (show (encL (m, l)).length ≤ 140737488355328 by
      have h1 := bytesF_size (m := m) (by unfold soundM at hs; simp only [Bool.and_eq_true] at hs; exact hs.1.1)
      have h2 := emitS_len l
      unfold encL cookieL
      simp only [List.length_append, List.length_cons, List.length_nil]
      omega)
    have FA := hide (fun b W => fields_any b W)
    have EM := hide (fun W (h : LstO v l W) => emit_any (v := v) (l := l) (by omega) W h)
    clear hs hgood
    go_enter Try.func12, Try.ntmps12
    go_wp2_with (refine wpList_load_box rfl (.tmp 1) rfl w.heap.size m v rfl B0.out ?_)
    refine (SD.out _ (HV.out _ HB.out)).mono ?_
    rintro e w2 ⟨rfl, hb2⟩
    have D2 := hide (HB.out.trans (hb2.mono HB.out.size))
    have B2 := hide (B0.out.step hb2)
    clear hb2 SD B0 HB
    go_wp2_with fail
    refine (FA.out _ _).mono ?_
    rintro e w3 ⟨g, rfl, hb3, hg3, hr3⟩
    have H3 := hide (show EnI m v w w.heap.size g 0 (.slice none 0 0) w3 from ⟨D2.out.trans (hb3.mono D2.out.size), B2.out.step hb3, hr3, ownS_nil _ _⟩)
    clear hb3 hg3 hr3 B2 D2 FA
    go_wp2_with fail
    go_loopw [4, 15] (fun va vi wr => ∃ k : Nat, k ≤ 14 ∧ vi = .int .i64 (k : Nat) ∧ EnI m v w w.heap.size g k va wr) (fun _ vi _ => 14 - (intOf vi).toNat)
    case atStart => exact ⟨0, Nat.zero_le _, rfl, H3.out⟩
    case round =>
      obtain ⟨k, hk, rfl, HH⟩ := hrel
      clear H3
      have HH2 := hide HH
      by_cases hlt : k < 14
      · obtain ⟨f, q1⟩ : ∃ f, m.fs[k]? = some f := ⟨_, List.getElem?_eq_getElem (show k < m.fs.length from hlt)⟩
        have GC : wr.cell? ⟨g, k, none⟩ = some (.iface f.ty (.pointer (some ⟨w.heap.size, k, none⟩))) := HH.2.2.1.at q1
        have WR := hide (show Calls Try.prog 24 #[.iface f.ty (.pointer (some ⟨w.heap.size, k, none⟩))] wr (Gives (.string (bs f.bytes)) wr) from write_any f _ wr (HH.2.1.field q1))
        have PN := hide (parts_next q1)
        have PL := hide (parts_len m k hk)
        clear HH q1
        go_wp2_with fail
        refine WR.out.mono ?_
        rintro e w4 ⟨rfl, hb4⟩
        have H4 := hide (HH2.out.step hb4)
        have H5 := hide (H4.out.step (below_alloc w4 (.cells #[.string (bs f.bytes)] 9)))
        clear hb4 WR GC HH2 H4
        generalize hbf : bs f.bytes = z at *
        have NW := hide (sv_new w4 [z] #[.string z] 9 rfl)
        go_wp2_with (at_builtin; refine wpList_append_S rfl (.tmp 19) (.tmp 22) rfl w.heap.size _ (partsF m k) rfl H5.out.2.2.2 w4.heap.size 1 z [] rfl NW.out (by have := PL.out; simp; omega) H5.out.1.size ?_; intro v6 w6 q1 q2 q3)
        have H6 := hide (show EnI m v w w.heap.size g (k + 1) v6 w6 from ⟨H5.out.1.trans q3, grown_keep H5.out.2.2.2 q2 H5.out.2.1 (by decide), grown_keep H5.out.2.2.2 q2 H5.out.2.2.1 (by decide), by rw [PN.out]; exact q1⟩)
        clear q1 q2 q3 H5 NW
        go_roundw
        case rel => exact ⟨k + 1, hlt, by go_num, H6.out⟩
        case measure => simp [intOf]; omega
      · have : k = 14 := by omega
        subst this
        have c14 := HH.2.1.at.2.2.2
        clear HH
        go_wp2_with fail
        refine (EM.out _ (HV.out _ HH2.out.1)).mono ?_
        rintro e w4 ⟨rfl, hb4⟩
        have H4 := hide (HH2.out.step hb4)
        have PA := hide (parts_all m l)
        have PL := hide (parts_len m 14 (Nat.le_refl _))
        clear hb4 EM c14 HH2
        generalize emitE l = n at *
        generalize bs (emitS l) = z at *
        have NW := hide (sv_new w4 [⟨#[99, 130, 83, 99]⟩, z] #[.string ⟨#[99, 130, 83, 99]⟩, .string z] 9 rfl)
        have H5 := hide (H4.out.step (below_alloc w4 (.cells #[.string ⟨#[99, 130, 83, 99]⟩, .string z] 9)))
        go_wp2_with (at_builtin; refine wpList_append_S rfl (.tmp 31) (.tmp 33) rfl w.heap.size _ (partsF m 14) rfl H5.out.2.2.2 w4.heap.size 2 ⟨#[99, 130, 83, 99]⟩ [z] rfl NW.out (by rw [PL.out]; simp) H5.out.1.size ?_; intro v6 w6 q1 q2 q3)
        have JO := hide (join_S q1 (by rw [List.length_append, PL.out]; simp) (by rw [show (⟨#[99, 130, 83, 99]⟩ : ByteArray) = bs cookieL from rfl, PA.out]; exact LE.out))
        rw [show (⟨#[99, 130, 83, 99]⟩ : ByteArray) = bs cookieL from rfl, PA.out] at JO
        have D6 := hide (H5.out.1.trans q3)
        clear q1 q2 q3 H5 NW H4
        go_wp2_with fail
        refine JO.out.mono ?_
        rintro e w7 ⟨rfl, hb7⟩
        have D7 := hide (D6.out.trans (hb7.mono D6.out.size))
        have SZ := hide (st_len (encL (m, l)))
        clear hb7 JO D6
        rcases HG.out with ⟨g1, g2, g3⟩ | ⟨g1, g2, g3⟩
        · have E1 := hide g2
          have E2 := hide g3
          have Q : (65507 : Int) < ((bs (encL (m, l))).size : Int) := by rw [SZ.out]; omega
          generalize bs (encL (m, l)) = y at *
          clear g1 g2 g3 HG SZ
          go_wp2
          go_ret2
          exact ⟨congrArg Ending.returned (tup2 (by rw [E2.out]; rfl) (by rw [E1.out]; rfl)), D7.out⟩
        · have E1 := hide g2
          have Q : ¬ (65507 : Int) < ((bs (encL (m, l))).size : Int) := by rw [SZ.out]; omega
          have E2 := hide (congrArg bs g3)
          generalize bs (encL (m, l)) = y at *
          clear g1 g2 g3 HG SZ
          go_wp2
          go_ret2
          exact ⟨congrArg Ending.returned (tup2 (by rw [E2.out]; rfl) (by rw [E1.out]; rfl)), D7.out⟩
end Go.Proofs.Ytmoklodaeicpgaa
