/-
  WalExact's walk. Condition: a string has at most 2^47 bytes, an int is one of 64 bits.
-/
import Derived.Test.YtnaedngbcndakaaWalDu
import Derived.Test.YtnaedngbcndakaaWalK
import Derived.Test.YtnaedngbcndakaaRdV
import Derived.Deep.RegionHeld3
import Derived.Deep.Cut
namespace Go.Proofs.Ytnaedngbcndakaa
open Go.RowKit Go.Maps

theorem goD_le {a b : Dk} {n : Nat} (ha : a.steps ≤ n) (hb : b.steps ≤ n) : (goD a b).2.steps ≤ n + 1 := by
  unfold goD
  split
  · show a.steps ≤ _
    omega
  · show b.steps + 1 ≤ _
    omega
theorem append_le (s : Dk) (x data : Nm) : (appendD s x data).2.steps ≤ s.steps + 1 := by
  have r : s.steps ≤ s.steps + 1 := Nat.le_succ _
  unfold appendD
  repeat' split
  all_goals first | exact r | exact goD_le (Nat.le_refl _) (Nat.le_refl _)
theorem sync_le (s : Dk) (x : Nm) : (syncD s x).2.steps ≤ s.steps + 1 := by
  have r : s.steps ≤ s.steps + 1 := Nat.le_succ _
  unfold syncD
  repeat' split
  all_goals first | exact r | exact goD_le (Nat.le_refl _) (Nat.le_refl _)
theorem cut_le (s : Dk) (x : Nm) (n : Int) : (cutD s x n).2.steps ≤ s.steps + 1 := by
  have r : s.steps ≤ s.steps + 1 := Nat.le_succ _
  unfold cutD
  repeat' split
  all_goals first | exact r | exact goD_le (Nat.le_refl _) (Nat.le_refl _)
theorem lopen_le (s : Dk) (x : Nm) : (lopenD x s).2.2.steps ≤ s.steps + 1 := by
  have r : s.steps ≤ s.steps + 1 := Nat.le_succ _
  unfold lopenD
  repeat' split
  all_goals first | exact r | exact cut_le _ _ _
theorem lopen_size {s : Dk} (h : DkOk s) (x : Nm) : sizeL (lopenD x s).2.1 ≤ 1048576 := by
  have h1 := scan_size (readD s x).1
  have h2 := read_len h x
  unfold lopenD
  repeat' split
  all_goals first | (show sizeL (scanL (readD s x).1) ≤ _; omega) | (show sizeL [] ≤ _; rw [size_nil]; omega)
theorem wapp_le (L : LS) (s : Dk) (x p : Nm) : (wAppD x p L s).2.2.steps ≤ s.steps + 1 ∧ wSizeD (wAppD x p L s).2.1 ≤ wSizeD L + (8 + p.length) := by
  match L with
  | none => exact ⟨Nat.le_succ _, Nat.zero_le _⟩
  | some (n, b) =>
    show (lappD x p n b s).2.2.steps ≤ _ ∧ (lappD x p n b s).2.1.1 ≤ n + (8 + p.length)
    unfold lappD
    split
    · exact ⟨Nat.le_succ _, Nat.le_add_right _ _⟩
    · split
      · refine ⟨append_le _ _ _, ?_⟩
        show (if _ = 0 then n + (8 + p.length) else n) ≤ _
        split <;> omega
      · exact ⟨Nat.le_succ _, Nat.le_add_right _ _⟩
theorem wsync_le (L : LS) (s : Dk) (x : Nm) : (wSyncD x L s).2.2.steps ≤ s.steps + 1 ∧ wSizeD (wSyncD x L s).2.1 ≤ wSizeD L := by
  match L with
  | none => exact ⟨Nat.le_succ _, Nat.zero_le _⟩
  | some (n, b) =>
    show (lsyncD x n b s).2.2.steps ≤ _ ∧ (lsyncD x n b s).2.1.1 ≤ n
    unfold lsyncD
    split
    · exact ⟨Nat.le_succ _, Nat.le_refl _⟩
    · exact ⟨sync_le _ _, Nat.le_refl _⟩
theorem arm_le (s : Dk) (a k : Int) : (armD s a k).steps = s.steps := by unfold armD; split <;> rfl
theorem offC_le (s : Dk) (k : Int) : (offC s k).steps = s.steps := by unfold offC; split <;> rfl
/-- the script -/
def ScrAt (w : World) (p : Option Go.Addr) (l : List Op7) : Prop := ∀ W, Fr No w W → ∀ k (hk : k < l.length), ∃ b o, p = some ⟨b, o, none⟩ ∧ W.cell? ⟨b, o + k * 4, none⟩ = some (.int .i64 l[k].kind) ∧ W.cell? ⟨b, o + k * 4 + 1, none⟩ = some (St l[k].data) ∧ W.cell? ⟨b, o + k * 4 + 2, none⟩ = some (.int .i64 l[k].n) ∧ W.cell? ⟨b, o + k * 4 + 3, none⟩ = some (.int .i64 l[k].keep)
def Bnd (L : LS) (s : Dk) (all k : Nat) : Prop := s.steps ≤ 3 * k ∧ wSizeD L ≤ 1048576 + all + 8 * k
def wOpenD (x : Nm) (s : Dk) : Int × List Nm × LS × Dk := ((lopenD x s).1, if (lopenD x s).1 = 0 then (lopenD x s).2.1 else [], if (lopenD x s).1 = 0 then some (sizeL (lopenD x s).2.1, false) else none, (lopenD x s).2.2)
theorem wopen_le {s : Dk} (h : DkOk s) (x : Nm) : (wOpenD x s).2.2.2.steps ≤ s.steps + 1 ∧ wSizeD (wOpenD x s).2.2.1 ≤ 1048576 ∧ (wOpenD x s).2.1.length ≤ 1048576 := by
  have h1 := lopen_size h x
  have h3 : ∀ l : List Nm, l.length ≤ sizeL l := fun l => by
    induction l with
    | nil => exact Nat.zero_le _
    | cons p l ih => rw [size_cons, List.length_cons]; omega
  have h4 := h3 (lopenD x s).2.1
  refine ⟨lopen_le s x, ?_, ?_⟩
  · show wSizeD (if _ = 0 then some (sizeL (lopenD x s).2.1, false) else none) ≤ _
    split
    · exact h1
    · exact Nat.zero_le _
  · show (if _ = 0 then (lopenD x s).2.1 else []).length ≤ _
    split
    · omega
    · exact Nat.zero_le _
section
variable {v w w' : World} {d e : Nat} {lv mv : Value} {x : Nm} {K : Nat → Prop} {s s' t t' : Dk} {L L' M M' : LS}
theorem Duo.ok1 (h : Duo K v w d e lv mv x L s M t) : DkOk s := by
  obtain ⟨O, h1, _⟩ := h.left
  obtain ⟨Od, h2, _⟩ := h1.acts
  exact h2.ok
/-- an Open of either kind -/
def OpA (K : Nat → Prop) (w : World) (c : Int) (l : List Nm) (L : LS) (D : Value → (Nat → Prop) → World → Prop) (en : Ending) (w' : World) : Prop :=
  ∃ (q : Option Go.Addr) (u : Value), en = .returned (.tuple #[.pointer q, u, .int .i64 c]) ∧ D (.pointer q) (fun i => K i ∨ u.ownBlock = some i) w' ∧ RowS w' u l ∧ Fr (fun i => ¬ K i) w w' ∧ q.isNone = L.isNone
theorem du_opn1 (h : Duo K v w d e lv mv x L s M t) (hst : s.steps < 4611686018427387904) (hx : x.length ≤ maxLen) {c : Int} {l : List Nm} (hr : wOpenD x s = (c, l, L', s')) :
    Calls Try.prog 13 #[Pt d, St x] w (OpA K w c l L' (fun lv' K' w' => Duo K' v w' d e lv' mv x L' s' M t)) := by
  unfold wOpenD at hr
  by_cases h0 : (lopenD x s).1 = 0
  · rw [if_pos h0, if_pos h0] at hr
    injection hr with r1 r2
    injection r2 with r2 r3
    injection r3 with r3 r4
    subst r3 r1
    refine (du_open1 (l := l) (s' := s') h hst hx (by rw [← r2, ← r4, ← h0])).mono (fun en w' k => ?_)
    obtain ⟨g, u, k1, k2, k3, k4⟩ := k
    exact ⟨_, u, by rw [h0]; exact k1, by rw [r2]; exact k2, k3, k4, rfl⟩
  · rw [if_neg h0, if_neg h0] at hr
    injection hr with r1 r2
    injection r2 with r2 r3
    injection r3 with r3 r4
    subst r3 r2
    refine (du_fail1 (c := c) (l := (lopenD x s).2.1) (s' := s') h hst hx (by rw [← r1, ← r4]) (by rw [← r1]; exact h0)).mono (fun en w' k => ?_)
    obtain ⟨k1, k2, k3⟩ := k
    exact ⟨none, _, k1, k2.no (Fr.refl _ _) (fun i hi => Or.inl (hi.elim id (fun e => by simp [Value.ownBlock] at e))), RowS.nil _, k3, rfl⟩
theorem du_opn2 (h : Duo K v w d e lv mv x L s M t) (hst : t.steps < 4611686018427387904) (hx : x.length ≤ maxLen) {c : Int} {l : List Nm} (hr : wOpenD x t = (c, l, M', t')) :
    Calls Try.prog 16 #[Pt e, St x] w (OpA K w c l M' (fun mv' K' w' => Duo K' v w' d e lv mv' x L s M' t')) := by
  unfold wOpenD at hr
  by_cases h0 : (lopenD x t).1 = 0
  · rw [if_pos h0, if_pos h0] at hr
    injection hr with r1 r2
    injection r2 with r2 r3
    injection r3 with r3 r4
    subst r3 r1
    refine (du_open2 (l := l) (t' := t') h hst hx (by rw [← r2, ← r4, ← h0])).mono (fun en w' k => ?_)
    obtain ⟨g, u, k1, k2, k3, k4⟩ := k
    exact ⟨_, u, by rw [h0]; exact k1, by rw [r2]; exact k2, k3, k4, rfl⟩
  · rw [if_neg h0, if_neg h0] at hr
    injection hr with r1 r2
    injection r2 with r2 r3
    injection r3 with r3 r4
    subst r3 r2
    refine (du_fail2 (c := c) (l := (lopenD x t).2.1) (t' := t') h hst hx (by rw [← r1, ← r4]) (by rw [← r1]; exact h0)).mono (fun en w' k => ?_)
    obtain ⟨k1, k2, k3⟩ := k
    exact ⟨none, _, k1, k2.no (Fr.refl _ _) (fun i hi => Or.inl (hi.elim id (fun e => by simp [Value.ownBlock] at e))), RowS.nil _, k3, rfl⟩
end
set_option maxRecDepth 100000 in
set_option maxHeartbeats 20000000 in
theorem exact_any {x : Nm} {p : Option Go.Addr} {c : Nat} {l : List Op7} (hx : x.length ≤ maxLen) (hok : ∀ y ∈ l, okO y ∧ y.data.length ≤ 140737488351232) (w : World) (h : ScrAt w p l) :
    Calls Try.prog 4 #[St x, .slice p l.length c] w (Tells w (.bool true)) := by
  have HC := hide h
  have HOK := hide hok
  have HX := hide hx
  clear h hok hx
  go_enter Try.func4, Try.ntmps4
  go_wp2_with fail
  refine (awake_any w).mono ?_
  rintro en w1 ⟨rfl, F1⟩
  go_wp2_with fail
  refine (open_nil x w1).mono ?_
  rintro en w2 ⟨rfl, F2⟩
  go_wp2_with fail
  refine (new_any w2).mono ?_
  rintro en w3 ⟨d, rfl, F3, _, D3⟩
  go_wp2_with fail
  refine (rnew_any w3).mono ?_
  rintro en w4 ⟨rfl, F4, D4⟩
  have H4 : Duo (fun _ => False) w2 w4 d w3.heap.size (.pointer none) (.pointer none) x none newD none newD := du_start (D3.no F4) D4 (fun i hi => hi.1) (fun i hi => Nat.le_trans F3.size hi.1) (fun i hi hq => by omega) (F3.andNo F4)
  generalize w3.heap.size = e at *
  have F2' := hide (F1.andNo F2)
  clear F1 F2 F3 F4 D3 D4
  cases hr : wOpenD x newD with
  | mk c0 r0 =>
  obtain ⟨l0, L0, s0⟩ := r0
  have bd := wopen_le H4.ok1 x
  rw [hr] at bd
  have HR := hide hr
  have B0 := hide (show Bnd L0 s0 0 1 from ⟨by have := bd.1; show s0.steps ≤ 3; have e : newD.steps = 0 := rfl; simp only at this; omega, by have := bd.2.1; show wSizeD L0 ≤ 1048576 + 0 + 8 * 1; simp only at this; omega⟩)
  have hl0 : l0.length < 1099511627776 := by have := bd.2.2; simp only at this; omega
  have ST0 : Hid (s0.steps < 4611686018427387904) := hide (by have := bd.1; have e : newD.steps = 0 := rfl; simp only at this; omega)
  clear hr bd
  go_wp2_with fail
  refine (du_opn1 H4 (by decide) HX.out HR.out).mono ?_
  rintro en w5 ⟨q5, u5, rfl, H5, R5, _, n5⟩
  clear H4
  go_wp2_with fail
  refine (du_opn2 H5 (by decide) HX.out HR.out).mono ?_
  rintro en w6 ⟨q6, u6, rfl, H6, R6, G6, n6⟩
  have R5' := R5.fr G6 (fun i hi hn => hn (Or.inr hi))
  have SM := hide (names_any R5' R6 hl0)
  rw [show decide (l0 = l0) = true from decide_eq_true rfl] at SM
  have nq : q5.isNone = q6.isNone := n5.trans n6.symm
  clear H5 R5 R5' R6 G6 n5 n6
  go_wp2_with fail
  refine SM.out.mono ?_
  rintro en w7 ⟨rfl, F7⟩
  have H7 := hide (H6.no (K' := fun _ => False) F7 (fun _ e => e.elim))
  clear H6 F7 SM nq
  go_wp2
  go_loopw [10, 12, 15, 16] (fun lv mv al i wr => ∃ (k all : Nat) (L : LS) (s : Dk), al = .int .i64 (all : Int) ∧ i = .int .i64 (k : Int) ∧ k ≤ l.length ∧ k ≤ 500 ∧ all ≤ 262144 ∧ Hid (Bnd L s all (k + 1)) ∧ Hid (Duo (fun _ => False) w2 wr d e lv mv x L s L s)) (fun _ _ _ i _ => l.length - (intOf i).toNat)
  case atStart => exact ⟨0, 0, L0, s0, rfl, rfl, Nat.zero_le _, Nat.zero_le _, Nat.zero_le _, B0, H7⟩
  case round =>
    clear H7 B0 ST0
    obtain ⟨k, all, L, s, rfl, rfl, hk1, hk2, hal, HB1, HD1⟩ := hrel
    have hst : Hid (s.steps < 4611686018427387904) := hide (by obtain ⟨h1, _⟩ := HB1.out; omega)
    have hsz : Hid (wSizeD L ≤ 4611686018427387904) := hide (by obtain ⟨_, h2⟩ := HB1.out; omega)
    by_cases hgo : k < l.length ∧ k < 500
    · obtain ⟨hlt1, hlt2⟩ := hgo
      have hlt3 : (k : Int) < (l.length : Int) := by omega
      have hlt4 : (k : Int) < 500 := by omega
      obtain ⟨b, o, rfl, x0, x1, x2, x3⟩ := HC.out wr (F2'.out.andNo HD1.out.fr) k hlt1
      have HOP := hide (HOK.out _ (List.getElem_mem hlt1))
      clear HC
      generalize l[k] = op at *
      obtain ⟨kind, data, n, keep⟩ := op
      simp only at x0 x1 x2 x3
      have hdx : data.length ≤ 140737488351232 := HOP.out.2
      obtain ⟨di, hd⟩ : ∃ di : Int, (data.length : Int) = di := ⟨_, rfl⟩
      have d1 : 0 ≤ di := by omega
      have d2 : di ≤ 140737488351232 := by omega
      clear hdx
      by_cases hbig : 262144 < all + data.length
      · have hb1 : 262144 < (all : Int) + di := by omega
        go_wp2
        go_ret
        exact ⟨rfl, (F2'.out.andNo HD1.out.fr).andNo (Fr.alloc _ _)⟩
      · have hb1 : ¬ 262144 < (all : Int) + di := by omega
        have hal2 : all + data.length ≤ 262144 := by omega
        have hdl : Hid (data.length ≤ maxLen) := hide (by unfold maxLen; omega)
        clear hbig
        go_upto_region 20 with fail
        have FA := Fr.alloc wr (.cells #[.int .i64 kind, St data, .int .i64 n, .int .i64 keep] 43)
        have B1 : (wr.alloc (.cells #[.int .i64 kind, St data, .int .i64 n, .int .i64 keep] 43)).heap[wr.heap.size]? = some (.cells #[.int .i64 kind, St data, .int .i64 n, .int .i64 keep] 43 (0, 0)) := (MapKept.heap_alloc wr _).1
        have H1 := HD1.out.no (K' := fun i => i = wr.heap.size) FA (fun i hi => Or.inr ⟨by omega, by rw [hi]; exact lt_of_block B1⟩)
        generalize wr.alloc (.cells #[.int .i64 kind, St data, .int .i64 n, .int .i64 keep] 43) = wb at *
        generalize wr.heap.size = bx at *
        have CB := hide (show ∀ W, Fr (fun i => ¬ i = bx) wb W → Fr (fun i => ¬ i = bx) wb W ∧ W.cell? ⟨bx, 0, none⟩ = some (.int .i64 kind) ∧ W.cell? ⟨bx, 1, none⟩ = some (St data) ∧ W.cell? ⟨bx, 2, none⟩ = some (.int .i64 n) ∧ W.cell? ⟨bx, 3, none⟩ = some (.int .i64 keep) from fun W F => by
          have B2 := F.keep B1 (fun e => e rfl)
          exact ⟨F, by rw [cell_at B2]; rfl, by rw [cell_at B2]; rfl, by rw [cell_at B2]; rfl, by rw [cell_at B2]; rfl⟩)
        have G0 : Fr (fun i => ¬ i = bx) wb wb := Fr.refl _ _
        obtain ⟨_, c0, c1, c2, c3⟩ := CB.out wb G0
        have I1 := HOP.out.1.2.2.1
        have I2 := HOP.out.1.2.2.2
        have HI1 := hide I1
        have HI2 := hide I2
        have HH1 := hide H1
        clear FA B1 H1 HD1 I1 I2 x0 x1 x2 x3
        by_cases k1 : kind = 1
        · subst k1
          obtain ⟨c9, L2, s2, hr⟩ : ∃ c9 L2 s2, wAppD x data L s = (c9, L2, s2) := ⟨_, _, _, rfl⟩
          have bd := wapp_le L s x data
          rw [hr] at bd
          have HR2 := hide hr
          have HBD := hide bd
          clear hr bd
          go_upto_region 22 with fail
          go_region_held3 (fun W => Fr (fun i => ¬ i = bx) wb W ∧ W.cell? ⟨bx, 0, none⟩ = some (.int .i64 1) ∧ W.cell? ⟨bx, 1, none⟩ = some (St data) ∧ W.cell? ⟨bx, 2, none⟩ = some (.int .i64 n) ∧ W.cell? ⟨bx, 3, none⟩ = some (.int .i64 keep))
            (first
              | exact CB.out _ (Fr.drew _).no
              | exact CB.out _ G9
              | exact CB.out _ G8)
            (first
              | (go_at_call 18; refine (du_lapp2 H8 hst.out HX.out hsz.out hdl.out HR2.out).mono ?_; rintro en w9 ⟨rfl, H9, g9⟩; have G9 := G8.trans g9 (fun _ _ e => e))
              | (go_at_call 17; refine (du_lapp1 (HH1.out.no (K' := fun i => i = bx) (Fr.drew _) (fun _ e => Or.inl e)) hst.out HX.out hsz.out HR2.out).mono ?_; rintro en w8 ⟨rfl, H8, g8⟩; have G8 : Fr (fun i => ¬ i = bx) wb w8 := (Fr.drew wb).no.trans g8 (fun _ _ e => e)))
          have HZ := hide H9
          clear c0 c1 c2 c3 HH1
          go_wp2_with fail
          refine (du_size1 HZ.out rfl).mono ?_
          rintro en z1 ⟨rfl, rfl⟩
          go_wp2_with fail
          refine (du_size2 HZ.out rfl).mono ?_
          rintro en z1 ⟨rfl, rfl⟩
          go_wp2_with fail
          refine (du_steps1 HZ.out rfl).mono ?_
          rintro en z1 ⟨rfl, rfl⟩
          go_wp2_with fail
          refine (du_steps2 HZ.out rfl).mono ?_
          rintro en z1 ⟨rfl, rfl⟩
          go_wp2_with fail
          refine (du_down1 HZ.out rfl).mono ?_
          rintro en z1 ⟨rfl, rfl⟩
          go_wp2_with fail
          refine (du_down2 HZ.out rfl).mono ?_
          rintro en z1 ⟨rfl, rfl⟩
          go_wp2
          go_roundw
          case rel => exact ⟨k + 1, all + data.length, L2, s2, by go_num, by go_num, by omega, by omega, hal2, hide (by obtain ⟨h1, h2⟩ := HB1.out; obtain ⟨h3, h4⟩ := HBD.out; refine ⟨?_, ?_⟩ <;> (try simp only at h3 h4) <;> omega), hide (HZ.out.no (Fr.refl _ _) (fun _ e => e.elim))⟩
          case measure => simp [intOf]; omega
        · by_cases k2 : kind = 2
          · subst k2
            obtain ⟨c9, L2, s2, hr⟩ : ∃ c9 L2 s2, wSyncD x L s = (c9, L2, s2) := ⟨_, _, _, rfl⟩
            have bd := wsync_le L s x
            rw [hr] at bd
            have HR2 := hide hr
            have HBD := hide bd
            clear hr bd
            go_wp2_with fail
            refine (du_lsync1 HH1.out hst.out HX.out HR2.out).mono ?_
            rintro en w8 ⟨rfl, H8, g8⟩
            go_wp2_with fail
            refine (du_lsync2 H8 hst.out HX.out HR2.out).mono ?_
            rintro en w9 ⟨rfl, H9, g9⟩
            have HZ := hide H9
            clear c0 c1 c2 c3 HH1
            go_wp2_with fail
            refine (du_size1 HZ.out rfl).mono ?_
            rintro en z1 ⟨rfl, rfl⟩
            go_wp2_with fail
            refine (du_size2 HZ.out rfl).mono ?_
            rintro en z1 ⟨rfl, rfl⟩
            go_wp2_with fail
            refine (du_steps1 HZ.out rfl).mono ?_
            rintro en z1 ⟨rfl, rfl⟩
            go_wp2_with fail
            refine (du_steps2 HZ.out rfl).mono ?_
            rintro en z1 ⟨rfl, rfl⟩
            go_wp2_with fail
            refine (du_down1 HZ.out rfl).mono ?_
            rintro en z1 ⟨rfl, rfl⟩
            go_wp2_with fail
            refine (du_down2 HZ.out rfl).mono ?_
            rintro en z1 ⟨rfl, rfl⟩
            go_wp2
            go_roundw
            case rel => exact ⟨k + 1, all + data.length, L2, s2, by go_num, by go_num, by omega, by omega, hal2, hide (by obtain ⟨h1, h2⟩ := HB1.out; obtain ⟨h3, h4⟩ := HBD.out; refine ⟨?_, ?_⟩ <;> (try simp only at h3 h4) <;> omega), hide (HZ.out.no (Fr.refl _ _) (fun _ e => e.elim))⟩
            case measure => simp [intOf]; omega
          · by_cases k3 : kind = 3
            · subst k3
              have HBD := hide (show (armD s n keep).steps ≤ s.steps + 1 ∧ wSizeD L ≤ wSizeD L + (8 + data.length) from ⟨by rw [arm_le]; omega, by omega⟩)
              go_wp2_with fail
              refine (du_arm1 HH1.out HI1.out HI2.out rfl).mono ?_
              rintro en w8 ⟨rfl, H8, g8⟩
              obtain ⟨G8, e0, e1, e2, e3⟩ := CB.out w8 (G0.trans g8 (fun _ _ e => e))
              go_wp2_with fail
              refine (du_arm2 H8 HI1.out HI2.out rfl).mono ?_
              rintro en w9 ⟨rfl, H9, g9⟩
              have HZ := hide H9
              clear c0 c1 c2 c3 HH1 e0 e1 e2 e3 H8 G8 g8 g9
              go_wp2_with fail
              refine (du_size1 HZ.out rfl).mono ?_
              rintro en z1 ⟨rfl, rfl⟩
              go_wp2_with fail
              refine (du_size2 HZ.out rfl).mono ?_
              rintro en z1 ⟨rfl, rfl⟩
              go_wp2_with fail
              refine (du_steps1 HZ.out rfl).mono ?_
              rintro en z1 ⟨rfl, rfl⟩
              go_wp2_with fail
              refine (du_steps2 HZ.out rfl).mono ?_
              rintro en z1 ⟨rfl, rfl⟩
              go_wp2_with fail
              refine (du_down1 HZ.out rfl).mono ?_
              rintro en z1 ⟨rfl, rfl⟩
              go_wp2_with fail
              refine (du_down2 HZ.out rfl).mono ?_
              rintro en z1 ⟨rfl, rfl⟩
              go_wp2
              go_roundw
              case rel => exact ⟨k + 1, all + data.length, L, (armD s n keep), by go_num, by go_num, by omega, by omega, hal2, hide (by obtain ⟨h1, h2⟩ := HB1.out; obtain ⟨h3, h4⟩ := HBD.out; refine ⟨?_, ?_⟩ <;> (try simp only at h3 h4) <;> omega), hide (HZ.out.no (Fr.refl _ _) (fun _ e => e.elim))⟩
              case measure => simp [intOf]; omega
            · by_cases k4 : kind = 4
              · subst k4
                have HBD := hide (show (offC s keep).steps ≤ s.steps + 1 ∧ wSizeD L ≤ wSizeD L + (8 + data.length) from ⟨by rw [offC_le]; omega, by omega⟩)
                go_wp2_with fail
                refine (du_off1 HH1.out HI2.out rfl).mono ?_
                rintro en w8 ⟨rfl, H8, g8⟩
                obtain ⟨G8, e0, e1, e2, e3⟩ := CB.out w8 (G0.trans g8 (fun _ _ e => e))
                go_wp2_with fail
                refine (du_off2 H8 HI2.out rfl).mono ?_
                rintro en w9 ⟨rfl, H9, g9⟩
                have HZ := hide H9
                clear c0 c1 c2 c3 HH1 e0 e1 e2 e3 H8 G8 g8 g9
                go_wp2_with fail
                refine (du_size1 HZ.out rfl).mono ?_
                rintro en z1 ⟨rfl, rfl⟩
                go_wp2_with fail
                refine (du_size2 HZ.out rfl).mono ?_
                rintro en z1 ⟨rfl, rfl⟩
                go_wp2_with fail
                refine (du_steps1 HZ.out rfl).mono ?_
                rintro en z1 ⟨rfl, rfl⟩
                go_wp2_with fail
                refine (du_steps2 HZ.out rfl).mono ?_
                rintro en z1 ⟨rfl, rfl⟩
                go_wp2_with fail
                refine (du_down1 HZ.out rfl).mono ?_
                rintro en z1 ⟨rfl, rfl⟩
                go_wp2_with fail
                refine (du_down2 HZ.out rfl).mono ?_
                rintro en z1 ⟨rfl, rfl⟩
                go_wp2
                go_roundw
                case rel => exact ⟨k + 1, all + data.length, L, (offC s keep), by go_num, by go_num, by omega, by omega, hal2, hide (by obtain ⟨h1, h2⟩ := HB1.out; obtain ⟨h3, h4⟩ := HBD.out; refine ⟨?_, ?_⟩ <;> (try simp only at h3 h4) <;> omega), hide (HZ.out.no (Fr.refl _ _) (fun _ e => e.elim))⟩
                case measure => simp [intOf]; omega
              · by_cases k5 : kind = 5
                · subst k5
                  have HBD := hide (show (onD s).steps ≤ s.steps + 1 ∧ wSizeD L ≤ wSizeD L + (8 + data.length) from ⟨Nat.le_succ _, by omega⟩)
                  go_wp2_with fail
                  refine (du_on1 HH1.out rfl).mono ?_
                  rintro en w8 ⟨rfl, H8, g8⟩
                  go_wp2_with fail
                  refine (du_on2 H8 rfl).mono ?_
                  rintro en w9 ⟨rfl, H9, g9⟩
                  have HZ := hide H9
                  clear c0 c1 c2 c3 HH1 H8 g8 g9
                  go_wp2_with fail
                  refine (du_size1 HZ.out rfl).mono ?_
                  rintro en z1 ⟨rfl, rfl⟩
                  go_wp2_with fail
                  refine (du_size2 HZ.out rfl).mono ?_
                  rintro en z1 ⟨rfl, rfl⟩
                  go_wp2_with fail
                  refine (du_steps1 HZ.out rfl).mono ?_
                  rintro en z1 ⟨rfl, rfl⟩
                  go_wp2_with fail
                  refine (du_steps2 HZ.out rfl).mono ?_
                  rintro en z1 ⟨rfl, rfl⟩
                  go_wp2_with fail
                  refine (du_down1 HZ.out rfl).mono ?_
                  rintro en z1 ⟨rfl, rfl⟩
                  go_wp2_with fail
                  refine (du_down2 HZ.out rfl).mono ?_
                  rintro en z1 ⟨rfl, rfl⟩
                  go_wp2
                  go_roundw
                  case rel => exact ⟨k + 1, all + data.length, L, (onD s), by go_num, by go_num, by omega, by omega, hal2, hide (by obtain ⟨h1, h2⟩ := HB1.out; obtain ⟨h3, h4⟩ := HBD.out; refine ⟨?_, ?_⟩ <;> (try simp only at h3 h4) <;> omega), hide (HZ.out.no (Fr.refl _ _) (fun _ e => e.elim))⟩
                  case measure => simp [intOf]; omega
                · by_cases k6 : kind = 6
                  · subst k6
                    obtain ⟨c9, l9, L2, s2, hr⟩ : ∃ c9 l9 L2 s2, wOpenD x s = (c9, l9, L2, s2) := ⟨_, _, _, _, rfl⟩
                    have bd := wopen_le HH1.out.ok1 x
                    rw [hr] at bd
                    have HR2 := hide hr
                    have HBD := hide bd
                    clear hr bd
                    go_wp2_with fail
                    refine (du_opn1 HH1.out hst.out HX.out HR2.out).mono ?_
                    rintro en w8 ⟨q8, u8, rfl, H8, R8, g8, n8⟩
                    go_wp2_with fail
                    refine (du_opn2 H8 hst.out HX.out HR2.out).mono ?_
                    rintro en w9 ⟨q9, u9, rfl, H9, R9, g9, n9⟩
                    have R8' := R8.fr g9 (fun i hi hn => hn (Or.inr hi))
                    have hl9 : l9.length < 1099511627776 := by have := HBD.out.2.2; (try simp only at this); omega
                    have SM := hide (names_any R8' R9 hl9)
                    rw [show decide (l9 = l9) = true from decide_eq_true rfl] at SM
                    have nq : q8.isNone = q9.isNone := n8.trans n9.symm
                    clear c0 c1 c2 c3 HH1 H8 R8 g8 n8 R9 g9 n9 R8'
                    go_wp2_with fail
                    refine SM.out.mono ?_
                    rintro en w10 ⟨rfl, F10⟩
                    have HZ := hide (H9.no (K' := fun i => i = bx) F10 (fun i e => Or.inl (Or.inl (Or.inl e))))
                    clear H9 F10 SM
                    go_wp2_with fail
                    refine (du_size1 HZ.out rfl).mono ?_
                    rintro en z1 ⟨rfl, rfl⟩
                    go_wp2_with fail
                    refine (du_size2 HZ.out rfl).mono ?_
                    rintro en z1 ⟨rfl, rfl⟩
                    go_wp2_with fail
                    refine (du_steps1 HZ.out rfl).mono ?_
                    rintro en z1 ⟨rfl, rfl⟩
                    go_wp2_with fail
                    refine (du_steps2 HZ.out rfl).mono ?_
                    rintro en z1 ⟨rfl, rfl⟩
                    go_wp2_with fail
                    refine (du_down1 HZ.out rfl).mono ?_
                    rintro en z1 ⟨rfl, rfl⟩
                    go_wp2_with fail
                    refine (du_down2 HZ.out rfl).mono ?_
                    rintro en z1 ⟨rfl, rfl⟩
                    go_wp2
                    go_roundw
                    case rel => exact ⟨k + 1, all + data.length, L2, s2, by go_num, by go_num, by omega, by omega, hal2, hide (by obtain ⟨h1, h2⟩ := HB1.out; obtain ⟨h3, h4, _⟩ := HBD.out; refine ⟨?_, ?_⟩ <;> (try simp only at h3 h4) <;> omega), hide (HZ.out.no (Fr.refl _ _) (fun _ e => e.elim))⟩
                    case measure => simp [intOf]; omega
                  · by_cases k7 : kind = 7
                    · subst k7
                      obtain ⟨c5, s5, hr5⟩ : ∃ c5 s5, appendD s x data = (c5, s5) := ⟨_, _, rfl⟩
                      have bd5 := append_le s x data
                      rw [hr5] at bd5
                      have HR5 := hide hr5
                      obtain ⟨c9, l9, L2, s2, hr⟩ : ∃ c9 l9 L2 s2, wOpenD x s5 = (c9, l9, L2, s2) := ⟨_, _, _, _, rfl⟩
                      have HR2 := hide hr
                      have HB5 := hide bd5
                      have ST5 : Hid (s5.steps < 4611686018427387904) := hide (by obtain ⟨h1, _⟩ := HB1.out; simp only at bd5; omega)
                      clear hr hr5 bd5
                      go_wp2_with fail
                      refine (du_app1 HH1.out hst.out HX.out hdl.out HR5.out).mono ?_
                      rintro en w5 ⟨rfl, H5, g5⟩
                      obtain ⟨G5, e0, e1, e2, e3⟩ := CB.out w5 (G0.trans g5 (fun _ _ e => e))
                      go_wp2_with fail
                      refine (du_app2 H5 hst.out HX.out HR5.out).mono ?_
                      rintro en w6 ⟨rfl, H6, g6⟩
                      have HBD := hide (wopen_le H6.ok1 x)
                      rw [HR2.out] at HBD
                      have HH6 := hide H6
                      clear c0 c1 c2 c3 HH1 e0 e1 e2 e3 H5 H6 g5 g6 G5
                      go_wp2_with fail
                      refine (du_opn1 HH6.out ST5.out HX.out HR2.out).mono ?_
                      rintro en w8 ⟨q8, u8, rfl, H8, R8, g8, n8⟩
                      go_wp2_with fail
                      refine (du_opn2 H8 ST5.out HX.out HR2.out).mono ?_
                      rintro en w9 ⟨q9, u9, rfl, H9, R9, g9, n9⟩
                      have R8' := R8.fr g9 (fun i hi hn => hn (Or.inr hi))
                      have hl9 : l9.length < 1099511627776 := by have := HBD.out.2.2; (try simp only at this); omega
                      have SM := hide (names_any R8' R9 hl9)
                      rw [show decide (l9 = l9) = true from decide_eq_true rfl] at SM
                      have nq : q8.isNone = q9.isNone := n8.trans n9.symm
                      clear HH6 H8 R8 g8 n8 R9 g9 n9 R8'
                      go_wp2_with fail
                      refine SM.out.mono ?_
                      rintro en w10 ⟨rfl, F10⟩
                      have HZ := hide (H9.no (K' := fun i => i = bx) F10 (fun i e => Or.inl (Or.inl (Or.inl e))))
                      clear H9 F10 SM
                      go_wp2_with fail
                      refine (du_size1 HZ.out rfl).mono ?_
                      rintro en z1 ⟨rfl, rfl⟩
                      go_wp2_with fail
                      refine (du_size2 HZ.out rfl).mono ?_
                      rintro en z1 ⟨rfl, rfl⟩
                      go_wp2_with fail
                      refine (du_steps1 HZ.out rfl).mono ?_
                      rintro en z1 ⟨rfl, rfl⟩
                      go_wp2_with fail
                      refine (du_steps2 HZ.out rfl).mono ?_
                      rintro en z1 ⟨rfl, rfl⟩
                      go_wp2_with fail
                      refine (du_down1 HZ.out rfl).mono ?_
                      rintro en z1 ⟨rfl, rfl⟩
                      go_wp2_with fail
                      refine (du_down2 HZ.out rfl).mono ?_
                      rintro en z1 ⟨rfl, rfl⟩
                      go_wp2
                      go_roundw
                      case rel => exact ⟨k + 1, all + data.length, L2, s2, by go_num, by go_num, by omega, by omega, hal2, hide (by obtain ⟨h1, h2⟩ := HB1.out; obtain ⟨h3, h4, _⟩ := HBD.out; have h5 := HB5.out; refine ⟨?_, ?_⟩ <;> (try simp only at h3 h4 h5) <;> omega), hide (HZ.out.no (Fr.refl _ _) (fun _ e => e.elim))⟩
                      case measure => simp [intOf]; omega
                    · have HBD := hide (show s.steps ≤ s.steps + 1 ∧ wSizeD L ≤ wSizeD L + (8 + data.length) from ⟨Nat.le_succ _, by omega⟩)
                      have HZ := HH1
                      go_wp2_with fail
                      refine (du_size1 HZ.out rfl).mono ?_
                      rintro en z1 ⟨rfl, rfl⟩
                      go_wp2_with fail
                      refine (du_size2 HZ.out rfl).mono ?_
                      rintro en z1 ⟨rfl, rfl⟩
                      go_wp2_with fail
                      refine (du_steps1 HZ.out rfl).mono ?_
                      rintro en z1 ⟨rfl, rfl⟩
                      go_wp2_with fail
                      refine (du_steps2 HZ.out rfl).mono ?_
                      rintro en z1 ⟨rfl, rfl⟩
                      go_wp2_with fail
                      refine (du_down1 HZ.out rfl).mono ?_
                      rintro en z1 ⟨rfl, rfl⟩
                      go_wp2_with fail
                      refine (du_down2 HZ.out rfl).mono ?_
                      rintro en z1 ⟨rfl, rfl⟩
                      go_wp2
                      go_roundw
                      case rel => exact ⟨k + 1, all + data.length, L, s, by go_num, by go_num, by omega, by omega, hal2, hide (by obtain ⟨h1, h2⟩ := HB1.out; obtain ⟨h3, h4⟩ := HBD.out; refine ⟨?_, ?_⟩ <;> (try simp only at h3 h4) <;> omega), hide (HZ.out.no (Fr.refl _ _) (fun _ e => e.elim))⟩
                      case measure => simp [intOf]; omega
    · have hexit : ¬ (k : Int) < (l.length : Int) ∨ ((k : Int) < (l.length : Int) ∧ ¬ (k : Int) < 500) := by omega
      obtain ⟨u1, c1, hr⟩ : ∃ u1 c1, readD (onD s) x = (u1, c1) := ⟨_, _, rfl⟩
      have HR2 := hide hr
      have HH1 := HD1
      clear hr HD1 HC hgo
      rcases hexit with z1 | ⟨z1, z2⟩
      all_goals
        go_wp2_with fail
        refine (du_on1 HH1.out rfl).mono ?_
        rintro en w8 ⟨rfl, H8, g8⟩
        go_wp2_with fail
        refine (du_on2 H8 rfl).mono ?_
        rintro en w9 ⟨rfl, H9, g9⟩
        go_wp2_with fail
        refine (du_read1 H9 HX.out HR2.out).mono ?_
        rintro en w10 ⟨rfl, H10, g10⟩
        go_wp2_with fail
        refine (du_read2 H10 HX.out HR2.out).mono ?_
        rintro en w11 ⟨rfl, H11, g11⟩
        go_wp2
        go_ret
        exact ⟨rfl, F2'.out.andNo H11.fr⟩
end Go.Proofs.Ytnaedngbcndakaa
