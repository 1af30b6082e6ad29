/-
  The document's own change of layer 9 (one): the leases behind a change, or its error. Conditions: at most 2000 leases, of their types, and a change of its type.
-/
import Derived.Test.YtpldkgollhbolaaGreatRtB
namespace Go.Proofs.YtpldkgollhbolaaGreat
open Go.RowKit Go.Joins Go.Maps

variable {w w' V W W' : World} {L : List Ls} {v : Value}
theorem rest_same {L : List Ls} {x : Ls} : (restL L x).length = L.length ↔ thereL L x = false := by
  constructor
  · intro h
    have e := (restL_sub L x).eq_of_length h
    cases ht : thereL L x with
    | false => rfl
    | true =>
      obtain ⟨y, _, hy, hk⟩ := find_there ht
      rw [← e] at hy
      have := (mem_restL.1 hy).2
      rw [hk] at this; cases this
  · intro h; rw [restL_none h]
def OnePost (w : World) (L : List Ls) (c : Ch) (e : Ending) (w' : World) : Prop := ∃ v, e = .returned (.tuple #[v, .int .i64 (errL L c : Nat)]) ∧ Below w.heap.size w w' ∧ (errL L c = 0 → ResL w w' v (chgL L c) ∧ ∀ n k, v = .slice none n k → k = 0)
theorem any_snoc {α : Type} {l : List α} {k : Nat} {y : α} {P : α → Bool} (hy : l[k]? = some y) (h : (l.take k).any P = false) : (l.take (k + 1)).any P = P y := by
  rw [List.take_add_one, hy, List.any_append, h]; simp
theorem any_here {α : Type} {l : List α} {k : Nat} {y : α} {P : α → Bool} (hy : l[k]? = some y) (h : P y = true) : l.any P = true := List.any_eq_true.2 ⟨y, List.mem_of_getElem? hy, h⟩
theorem changeC_box (w : World) (c : Ch) (T : TypeId) : (w.alloc (.cells (changeC c) T)).cell? ⟨w.heap.size, 0, none⟩ = some (.bool c.gone) ∧ AtL w.heap.size 1 c.l (w.alloc (.cells (changeC c) T)) := by
  have h := heap_alloc_new w (.cells (changeC c) T)
  exact ⟨cell_at h 0, cell_at h 1, cell_at h 2, cell_at h 3, cell_at h 4, cell_at h 5, cell_at h 6, cell_at h 7, cell_at h 8⟩
theorem lt_of_cell {b o : Nat} {u : Value} (h : W.cell? ⟨b, o, none⟩ = some u) : b < W.heap.size := by
  rcases Nat.lt_or_ge b W.heap.size with h2 | h2
  · exact h2
  · unfold World.cell? at h; rw [Array.getElem?_eq_none h2] at h; cases h
/-- the boxes of the change and of its lease -/
structure OB (w : World) (c : Ch) (W : World) : Prop where
  bel : Below w.heap.size w W
  gone : W.cell? ⟨w.heap.size, 0, none⟩ = some (.bool c.gone)
  ch : AtL w.heap.size 1 c.l W
  x : AtL (w.heap.size + 1) 0 c.l W
theorem OB.step {c : Ch} (h : OB w c W) (hb : Below W.heap.size W W') : OB w c W' := ⟨chain h.bel hb, keep_cell hb h.gone, h.ch.st hb, h.x.st hb⟩
theorem ob_new (w : World) (c : Ch) : OB w c ((w.alloc (.cells (changeC c) 41)).alloc (.cells (leaseC c.l) 30)) := by
  obtain ⟨h0, h1⟩ := changeC_box w c 41
  have hx := atL_new (w.alloc (.cells (changeC c) 41)) c.l 30
  rw [show (w.alloc (.cells (changeC c) 41)).heap.size = w.heap.size + 1 by simp] at hx
  exact ⟨chain (below_alloc _ _) (below_alloc _ _), keep_cell (below_alloc _ _) h0, h1.st (below_alloc _ _), hx⟩
set_option maxRecDepth 100000 in
set_option maxHeartbeats 8000000 in
theorem one_any (ch : Ch) (okc : ch.l.ok) {p : Option Go.Addr} {c : Nat} (w : World) (hl : LstL p L w) (hn : L.length ≤ 2000) (hok : ∀ y ∈ L, y.ok) :
    Calls Tryz.prog 25 #[.slice p L.length c, Cv ch] w (OnePost w L ch) := by
  have HL := hide hl
  have OKC := hide okc
  have OKL := hide hok
  have OB0 := hide (ob_new w ch)
  have HC := hide (fun W => rchangeC_any ch okc.p W)
  have HE := hide (show errL L ch = (if changeS ch = false then 80 else if ch.gone = true then (if thereL L ch.l = true then 0 else 62) else if takenL (restL L ch.l) ch.l = true then 90 else if clashL (restL L ch.l) ch.l = true then 91 else if 1024 ≤ (restL L ch.l).length then 63 else 0) from rfl)
  have HG := hide (show chgL L ch = (if ch.gone = true then restL L ch.l else putL ch.l (restL L ch.l)) from rfl)
  clear hl okc hok
  have g0 := OB0.out.gone
  obtain ⟨b0, b1, b2, b3, b4, b5, b6, b7⟩ := OB0.out.ch
  obtain ⟨x0, x1, x2, x3, x4, x5, x6, x7⟩ := OB0.out.x
  go_enter Tryz.func25, Tryz.ntmps25
  go_wp2_with fail
  refine (HC.out _).mono ?_
  rintro e w1 ⟨rfl, hb1⟩
  have OB1 := hide (OB0.out.step hb1)
  clear b0 b1 b2 b3 b4 b5 b6 b7 x0 x1 x2 x3 x4 x5 x6 x7 g0 HC OB0 hb1
  cases hcs : changeS ch with
  | false =>
    have END : Hid (OnePost w L ch (.returned (.tuple #[.slice none 0 0, .int .i64 80])) w1) := hide (by
      have e : errL L ch = 80 := by rw [HE.out, if_pos hcs]
      exact ⟨_, by rw [e]; rfl, OB1.out.bel, fun h => by rw [e] at h; cases h⟩)
    clear hcs
    go_wp2
    go_ret2
    exact END.out
  | true =>
    have HE2 := hide (show errL L ch = (if ch.gone = true then (if thereL L ch.l = true then 0 else 62) else if takenL (restL L ch.l) ch.l = true then 90 else if clashL (restL L ch.l) ch.l = true then 91 else if 1024 ≤ (restL L ch.l).length then 63 else 0) by rw [HE.out, if_neg (by rw [hcs]; decide)])
    have WO := hide (without_any (c := c) ch.l w1 (HL.out.step OB1.out.bel) (by omega))
    obtain ⟨x0, x1, x2, x3, x4, x5, x6, x7⟩ := OB1.out.x
    clear hcs HE
    go_wp2_with fail
    refine WO.out.mono ?_
    rintro e w2 ⟨v2, rfl, hr2, hb2, hnil2⟩
    have NIL2 := hide hnil2
    have RES2 := hide hr2
    obtain ⟨p2, c2, rfl, hl2, _⟩ := hr2.lst
    have HL2 := hide hl2
    have OB2 := hide (OB1.out.step hb2)
    have RL : (restL L ch.l).length ≤ 2000 := Nat.le_trans (restL_sub L ch.l).length_le hn
    have RS := hide (rest_same (L := L) (x := ch.l))
    have OKR := hide (fun y (hy : y ∈ restL L ch.l) => OKL.out y (mem_restL.1 hy).1)
    have S1 := hide OB1.out.bel.size
    clear x0 x1 x2 x3 x4 x5 x6 x7 WO hr2 hl2 hb2 hnil2 OB1 OKL
    generalize restL L ch.l = R at *
    have g0 := OB2.out.gone
    cases hg : ch.gone with
    | true =>
      rw [hg] at g0
      have HG2 := hide (show chgL L ch = R by rw [HG.out, if_pos hg])
      cases ht : thereL L ch.l with
      | false =>
        have e : errL L ch = 62 := by rw [HE2.out, if_pos hg, if_neg (by rw [ht]; decide)]
        have hlen : ((R.length : Int) == (L.length : Int)) = true := by rw [beq_iff_eq, RS.out.2 ht]
        have END : Hid (OnePost w L ch (.returned (.tuple #[.slice none 0 0, .int .i64 62])) w2) := hide ⟨_, by rw [e]; rfl, OB2.out.bel, fun h => by rw [e] at h; cases h⟩
        clear hg ht e HE2 HG RS
        go_wp2
        go_ret2
        exact END.out
      | true =>
        have e : errL L ch = 0 := by rw [HE2.out, if_pos hg, if_pos ht]
        have hlen : ((R.length : Int) == (L.length : Int)) = false := by
          rw [beq_eq_false_iff_ne]
          intro h
          have := RS.out.1 (by omega)
          rw [ht] at this; cases this
        have END : Hid (OnePost w L ch (.returned (.tuple #[.slice p2 R.length c2, .int .i64 0])) w2) := hide ⟨_, by rw [e]; rfl, OB2.out.bel, fun _ => by rw [HG2.out]; exact ⟨RES2.out.older S1.out, NIL2.out⟩⟩
        clear hg ht e HE2 HG RS
        go_wp2
        go_ret2
        exact END.out
    | false =>
      rw [hg] at g0
      have HG2 := hide (show chgL L ch = putL ch.l R by rw [HG.out, if_neg (by rw [hg]; decide)])
      have HE3 := hide (show errL L ch = (if takenL R ch.l = true then 90 else if clashL R ch.l = true then 91 else if 1024 ≤ R.length then 63 else 0) by rw [HE2.out, if_neg (by rw [hg]; decide)])
      clear hg HE2 HG RS
      have RLI : (R.length : Int) ≤ 2000 := by omega
      go_wp2_with fail
      go_loopw [8] (fun ii wr => ∃ k : Nat, k ≤ R.length ∧ ii = .int .i64 (k : Nat) ∧ Hid ((R.take k).any (fun y => bndB ch.l && bndB y && ownB ch.l y) = false) ∧ Hid (Below w2.heap.size w2 wr)) (fun ii _ => R.length - (intOf ii).toNat)
      case atStart => exact ⟨0, Nat.zero_le _, rfl, hide rfl, hide (Below.refl _ _)⟩
      case round =>
        obtain ⟨k, hk, rfl, HA, HB⟩ := hrel
        have hk0 : (0 : Int) ≤ (k : Int) := by omega
        have OBk := hide (OB2.out.step HB.out)
        by_cases hlt : k < R.length
        · obtain ⟨y, hy⟩ : ∃ y, R[k]? = some y := ⟨_, List.getElem?_eq_getElem hlt⟩
          have hlt2 : (k : Int) < (R.length : Int) := by omega
          have AS := hide (any_snoc hy HA.out)
          have AH := hide (fun (h : (bndB ch.l && bndB y && ownB ch.l y) = true) => any_here (P := fun y => bndB ch.l && bndB y && ownB ch.l y) hy h)
          obtain ⟨b, o, rfl, y0, y1, y2, y3, y4, y5, y6, y7⟩ := HL2.out.step HB.out k y hy
          obtain ⟨x0, x1, x2, x3, x4, x5, x6, x7⟩ := OBk.out.x
          have n0 : w.heap.size + 1 < wr.heap.size := lt_of_cell x0
          have n1 : ¬ w.heap.size + 1 = wr.heap.size := by omega
          have n2 : ¬ wr.heap.size = w.heap.size + 1 := by omega
          have BY := hide (HB.out.trans ((below_alloc wr (.cells (leaseC y) 30)).mono HB.out.size))
          clear hy
          by_cases hP : bndB ch.l = true ∧ bndB y = true ∧ ownB ch.l y = true
          · have e : errL L ch = 90 := by
              rw [HE3.out, if_pos]
              exact AH.out (by simp [hP.1, hP.2.1, hP.2.2])
            have END : Hid (∀ W, Below w2.heap.size w2 W → OnePost w L ch (.returned (.tuple #[.slice none 0 0, .int .i64 90])) W) := hide (fun W hb => ⟨_, by rw [e]; rfl, chain OB2.out.bel hb, fun h => by rw [e] at h; cases h⟩)
            obtain ⟨h1, h2, h3⟩ := hP
            unfold ownB at h3
            have h3 := of_decide_eq_true h3
            have e1 : (ch.l.st == 1) = true := by rw [beq_iff_eq]; exact of_decide_eq_true h1
            have e2 : (y.st == 1) = true := by rw [beq_iff_eq]; exact of_decide_eq_true h2
            have e3 : (ch.l.kind == y.kind) = true := by rw [beq_iff_eq]; exact h3.1
            have e4 : (ch.l.cl.toList == y.cl.toList) = true := by rw [bytes_ne]; exact decide_eq_true h3.2.1
            have e5 : ((ch.l.ia : Int) == (y.ia : Int)) = true := by rw [beq_iff_eq, h3.2.2]
            clear h1 h2 h3 e AS AH HE3 HA
            go_wp2
            go_ret2
            exact END.out _ BY.out
          · have AF := hide (show ((R.take (k + 1)).any (fun y => bndB ch.l && bndB y && ownB ch.l y)) = false by
              rw [AS.out]
              cases e1 : bndB ch.l <;> cases e2 : bndB y <;> cases e3 : ownB ch.l y <;> first | rfl | exact absurd ⟨e1, e2, e3⟩ hP)
            have OC := own_cases hP
            clear hP AS AH HA
            rcases OC with h1 | ⟨h1, h2⟩ | ⟨h1, h2, h3⟩ | ⟨h1, h2, h3, h4⟩ | ⟨h1, h2, h3, h4, h5⟩
            all_goals
              go_wp2
              go_roundw
              case rel => exact ⟨k + 1, hlt, by go_num, AF, BY⟩
              case measure => simp [intOf]; omega
        · have hlt2 : ¬ (k : Int) < (R.length : Int) := by omega
          have HE4 := hide (show errL L ch = (if clashL R ch.l = true then 91 else if 1024 ≤ R.length then 63 else 0) by
            rw [HE3.out, if_neg]
            have := HA.out
            rw [show k = R.length by omega, List.take_length] at this
            unfold takenL; rw [this]; decide)
          have HBk := hide HB.out
          clear HA HE3
          go_wp2_with fail
          go_loopw [10] (fun ii wq => ∃ j : Nat, j ≤ R.length ∧ ii = .int .i64 (j : Nat) ∧ Hid ((R.take j).any (fun y => meetL ch.l y) = false) ∧ Hid (Below w2.heap.size w2 wq)) (fun ii _ => R.length - (intOf ii).toNat)
          case atStart => exact ⟨0, Nat.zero_le _, rfl, hide rfl, HBk⟩
          case round =>
            clear HBk HB OBk
            obtain ⟨j, hj, rfl, HA, HB⟩ := hrel
            have hj0 : (0 : Int) ≤ (j : Int) := by omega
            have OBj := hide (OB2.out.step HB.out)
            by_cases hlj : j < R.length
            · obtain ⟨y, hy⟩ : ∃ y, R[j]? = some y := ⟨_, List.getElem?_eq_getElem hlj⟩
              have hlj2 : (j : Int) < (R.length : Int) := by omega
              have AS := hide (any_snoc hy HA.out)
              have AH := hide (fun (h : meetL ch.l y = true) => any_here (P := fun y => meetL ch.l y) hy h)
              have oky := OKR.out y (List.mem_of_getElem? hy)
              have MT := hide (fun W => rmeet_any ch.l.kind OKC.out.p ch.l.n y.kind oky.p y.n W)
              obtain ⟨b, o, rfl, hat⟩ := HL2.out.step HB.out j y hy
              have HY := hide (fun W (H : NB wr W) => hat.st H)
              have XW := hide (fun W (H : NB wr W) => OBj.out.x.st H)
              clear hy hat oky
              have ME := hide (show meetS ch.l.kind ch.l.p ch.l.n y.kind y.p y.n = meetL ch.l y from rfl)
              generalize meetS ch.l.kind ch.l.p ch.l.n y.kind y.p y.n = ms at *
              go_wp2_with fail
              refine wp_region_quiet (C := NB wr) (by kernel_rfl) (by kernel_rfl) (below_drew wr) (wpQuiet_step (fun K0 hK0 => ?_))
              go_simp
              first | (with_reducible refine hK0 _ (wpQuiet_step (fun K1 hK1 => ?_))) | (with_reducible refine ⟨_, fun _ _ => rfl, hK0 _ (wpQuiet_step (fun K1 hK1 => ?_))⟩) | (rw [if_neg (by intro e; cases e)]; with_reducible refine hK0 _ (wpQuiet_step (fun K1 hK1 => ?_)))
              clear hK0 K0
              go_simp
              refine ⟨.int .i64 ch.l.kind, fun W hW => ?_, hK1 _ (wpQuiet_step (fun K0 hK0 => ?_))⟩
              · ((obtain ⟨u0, u1, u2, u3, u4, u5, u6, u7⟩ := XW.out W hW; simp [go_sem, u0]))
              clear hK1 K1
              go_simp
              first | (with_reducible refine hK0 _ (wpQuiet_step (fun K1 hK1 => ?_))) | (with_reducible refine ⟨_, fun _ _ => rfl, hK0 _ (wpQuiet_step (fun K1 hK1 => ?_))⟩) | (rw [if_neg (by intro e; cases e)]; with_reducible refine hK0 _ (wpQuiet_step (fun K1 hK1 => ?_)))
              clear hK0 K0
              go_simp
              refine ⟨Pv ch.l.p ch.l.n, fun W hW => ?_, hK1 _ (wpQuiet_step (fun K0 hK0 => ?_))⟩
              · ((obtain ⟨u0, u1, u2, u3, u4, u5, u6, u7⟩ := XW.out W hW; simp [go_sem, u1, u2, u3]))
              clear hK1 K1
              go_simp
              first | (with_reducible refine hK0 _ (wpQuiet_step (fun K1 hK1 => ?_))) | (with_reducible refine ⟨_, fun _ _ => rfl, hK0 _ (wpQuiet_step (fun K1 hK1 => ?_))⟩) | (rw [if_neg (by intro e; cases e)]; with_reducible refine hK0 _ (wpQuiet_step (fun K1 hK1 => ?_)))
              clear hK0 K0
              go_simp
              first | (with_reducible refine hK1 _ (wpQuiet_step (fun K0 hK0 => ?_))) | (with_reducible refine ⟨_, fun _ _ => rfl, hK1 _ (wpQuiet_step (fun K0 hK0 => ?_))⟩) | (rw [if_neg (by intro e; cases e)]; with_reducible refine hK1 _ (wpQuiet_step (fun K0 hK0 => ?_)))
              clear hK1 K1
              go_simp
              first | (with_reducible refine hK0 _ (wpQuiet_step (fun K1 hK1 => ?_))) | (with_reducible refine ⟨_, fun _ _ => rfl, hK0 _ (wpQuiet_step (fun K1 hK1 => ?_))⟩) | (rw [if_neg (by intro e; cases e)]; with_reducible refine hK0 _ (wpQuiet_step (fun K1 hK1 => ?_)))
              clear hK0 K0
              go_simp
              first | (with_reducible refine hK1 _ (wpQuiet_step (fun K0 hK0 => ?_))) | (with_reducible refine ⟨_, fun _ _ => rfl, hK1 _ (wpQuiet_step (fun K0 hK0 => ?_))⟩) | (rw [if_neg (by intro e; cases e)]; with_reducible refine hK1 _ (wpQuiet_step (fun K0 hK0 => ?_)))
              clear hK1 K1
              go_simp
              refine ⟨.int .i64 y.kind, fun W hW => ?_, hK0 _ (wpQuiet_step (fun K1 hK1 => ?_))⟩
              · ((obtain ⟨u0, u1, u2, u3, u4, u5, u6, u7⟩ := HY.out W hW; simp [go_sem, u0]))
              clear hK0 K0
              go_simp
              first | (with_reducible refine hK1 _ (wpQuiet_step (fun K0 hK0 => ?_))) | (with_reducible refine ⟨_, fun _ _ => rfl, hK1 _ (wpQuiet_step (fun K0 hK0 => ?_))⟩) | (rw [if_neg (by intro e; cases e)]; with_reducible refine hK1 _ (wpQuiet_step (fun K0 hK0 => ?_)))
              clear hK1 K1
              go_simp
              first | (with_reducible refine hK0 _ (wpQuiet_step (fun K1 hK1 => ?_))) | (with_reducible refine ⟨_, fun _ _ => rfl, hK0 _ (wpQuiet_step (fun K1 hK1 => ?_))⟩) | (rw [if_neg (by intro e; cases e)]; with_reducible refine hK0 _ (wpQuiet_step (fun K1 hK1 => ?_)))
              clear hK0 K0
              go_simp
              first | (with_reducible refine hK1 _ (wpQuiet_step (fun K0 hK0 => ?_))) | (with_reducible refine ⟨_, fun _ _ => rfl, hK1 _ (wpQuiet_step (fun K0 hK0 => ?_))⟩) | (rw [if_neg (by intro e; cases e)]; with_reducible refine hK1 _ (wpQuiet_step (fun K0 hK0 => ?_)))
              clear hK1 K1
              go_simp
              first | (with_reducible refine hK0 _ (wpQuiet_step (fun K1 hK1 => ?_))) | (with_reducible refine ⟨_, fun _ _ => rfl, hK0 _ (wpQuiet_step (fun K1 hK1 => ?_))⟩) | (rw [if_neg (by intro e; cases e)]; with_reducible refine hK0 _ (wpQuiet_step (fun K1 hK1 => ?_)))
              clear hK0 K0
              go_simp
              refine ⟨Pv y.p y.n, fun W hW => ?_, hK1 _ (wpQuiet_step (fun K0 hK0 => ?_))⟩
              · ((obtain ⟨u0, u1, u2, u3, u4, u5, u6, u7⟩ := HY.out W hW; simp [go_sem, u1, u2, u3]))
              clear hK1 K1
              go_simp
              refine ⟨.bool ms, fun W hW => ?_, hK0 _ (wpQuiet_nil ?_)⟩
              · exact (MT.out W).mono fun e w2 ⟨he, hb⟩ => ⟨he, NB.step hW hb⟩
              clear hK0 K0
              intro w3 H3
              have BY := hide (HB.out.trans (H3.mono HB.out.size))
              clear HY XW MT H3 HB OBj
              cases ms with
              | true =>
                have e : errL L ch = 91 := by
                  rw [HE4.out, if_pos]
                  exact AH.out ME.out.symm
                have END : Hid (∀ W, Below w2.heap.size w2 W → OnePost w L ch (.returned (.tuple #[.slice none 0 0, .int .i64 91])) W) := hide (fun W hb => ⟨_, by rw [e]; rfl, chain OB2.out.bel hb, fun h => by rw [e] at h; cases h⟩)
                clear e AS AH ME HE4 HA
                go_wp2
                go_ret2
                exact END.out _ BY.out
              | false =>
                have AF := hide (show ((R.take (j + 1)).any (fun y => meetL ch.l y)) = false by rw [AS.out]; exact ME.out.symm)
                clear AS AH ME HA
                go_wp2
                go_roundw
                case rel => exact ⟨j + 1, hlj, by go_num, AF, BY⟩
                case measure => simp [intOf]; omega
            · have hlj2 : ¬ (j : Int) < (R.length : Int) := by omega
              have HE5 := hide (show errL L ch = (if 1024 ≤ R.length then 63 else 0) by
                rw [HE4.out, if_neg]
                have := HA.out
                rw [show j = R.length by omega, List.take_length] at this
                unfold clashL; rw [this]; decide)
              clear HA HE4
              by_cases hf : 1024 ≤ R.length
              · have hf2 : (1024 : Int) ≤ (R.length : Int) := by omega
                have END : Hid (OnePost w L ch (.returned (.tuple #[.slice none 0 0, .int .i64 63])) wr) := hide (by
                  have e : errL L ch = 63 := by rw [HE5.out, if_pos hf]
                  exact ⟨_, by rw [e]; rfl, chain OB2.out.bel HB.out, fun h => by rw [e] at h; cases h⟩)
                clear HE5 hf
                go_wp2
                go_ret2
                exact END.out
              · have hf2 : ¬ (1024 : Int) ≤ (R.length : Int) := by omega
                have e := hide (show errL L ch = 0 by rw [HE5.out, if_neg hf])
                have WI := hide (with9_any (c := c2) ch.l OKC.out wr (HL2.out.step HB.out) (by omega) OKR.out)
                obtain ⟨x0, x1, x2, x3, x4, x5, x6, x7⟩ := OBj.out.x
                have SB := hide HB.out.size
                have S2 := hide OB2.out.bel.size
                have BE := hide (chain OB2.out.bel HB.out)
                clear HE5 hf HB OBj
                go_wp2_with fail
                refine WI.out.mono ?_
                rintro e5 w5 ⟨v5, rfl, hr5, hb5, hnil5⟩
                have END : Hid (OnePost w L ch (.returned (.tuple #[v5, .int .i64 0])) w5) := hide ⟨_, by rw [e.out]; rfl, chain BE.out hb5, fun _ => by rw [HG2.out]; exact ⟨hr5.older (Nat.le_trans S2.out SB.out), hnil5⟩⟩
                clear x0 x1 x2 x3 x4 x5 x6 x7 hr5 hb5 hnil5 e WI
                go_wp2
                go_ret2
                exact END.out
end Go.Proofs.YtpldkgollhbolaaGreat
