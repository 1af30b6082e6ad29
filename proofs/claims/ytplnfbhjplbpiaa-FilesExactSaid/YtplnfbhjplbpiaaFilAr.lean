/-
  The walk of FilesArm. Conditions: an int is one of 64 bits, a string takes at most 2^47 bytes (every value that the statement takes is such).
-/
import Derived.Test.YtplnfbhjplbpiaaFilAm
import Derived.Test.YtplnfbhjplbpiaaFilKe
namespace Go.Proofs.Ytplnfbhjplbpiaa
open Go.RowKit Go.Maps

/-- a slice of operations -/
def OpsAt (W : World) (p : Option Go.Addr) (l : List Op6) : Prop := ∀ k (hk : k < l.length), ∃ b o, p = some ⟨b, o, none⟩ ∧ b < W.heap.size ∧
  W.cell? ⟨b, o + k * 6, none⟩ = some (.int .i64 l[k].kind) ∧ W.cell? ⟨b, o + k * 6 + 1, none⟩ = some (.int .i64 l[k].on) ∧ W.cell? ⟨b, o + k * 6 + 2, none⟩ = some (St l[k].name) ∧
  W.cell? ⟨b, o + k * 6 + 3, none⟩ = some (St l[k].data) ∧ W.cell? ⟨b, o + k * 6 + 4, none⟩ = some (.int .i64 l[k].n) ∧ W.cell? ⟨b, o + k * 6 + 5, none⟩ = some (.int .i64 l[k].keep)
theorem OpsAt.no {W W2 : World} {p : Option Go.Addr} {l : List Op6} (h : OpsAt W p l) (F : Fr No W W2) : OpsAt W2 p l := fun k hk => by
  obtain ⟨b, o, h1, h2, h3⟩ := h k hk
  have e := fun i => World.cell?_of_block (a := ⟨b, i, none⟩) (F.block b h2 (fun e => e))
  refine ⟨b, o, h1, Nat.lt_of_lt_of_le h2 F.size, ?_⟩
  rw [e, e, e, e, e, e]
  exact h3
theorem lst_ops {W : World} {v : Value} {l : List Op6} (h : LstG wdO 6 v l W) : ∃ p c, v = .slice p l.length c ∧ OpsAt W p l ∧ l.length ≤ maxLen := by
  rcases h with ⟨p, c, rfl, rfl⟩ | ⟨b, o, c, rfl, h2, h3, h4⟩
  · exact ⟨p, c, rfl, fun k hk => absurd hk (Nat.not_lt_zero _), Nat.zero_le _⟩
  · refine ⟨_, c, rfl, fun k hk => ⟨b, o, rfl, h2, ?_⟩, h3⟩
    have := h4 k l[k] (List.getElem?_eq_getElem hk)
    exact ⟨this 0 _ rfl, this 1 _ rfl, this 2 _ rfl, this 3 _ rfl, this 4 _ rfl, this 5 _ rfl⟩
theorem cut_of (n : Int) : ∃ c : Nat, wrap64 ((IntKind.u64.wrap n).tmod 20) = (c : Int) ∧ c < 20 := by
  rw [IntKind.wrap_u64, Int.tmod_eq_emod_of_nonneg (by omega)]
  refine ⟨(n % 18446744073709551616 % 20).toNat, ?_, by omega⟩
  rw [IntWalk.wrap64_in _ ⟨by omega, by omega⟩]
  omega
abbrev opC (o : Op6) : Array Value := #[.int .i64 o.kind, .int .i64 o.on, St o.name, St o.data, .int .i64 o.n, .int .i64 o.keep]
theorem op_cells {W : World} {g : Nat} {o : Op6} (h : W.heap[g]? = some (.cells (opC o) 29 (0, 0))) :
    W.cell? ⟨g, 0, none⟩ = some (.int .i64 o.kind) ∧ W.cell? ⟨g, 1, none⟩ = some (.int .i64 o.on) ∧ W.cell? ⟨g, 2, none⟩ = some (St o.name) ∧ W.cell? ⟨g, 3, none⟩ = some (St o.data) ∧ W.cell? ⟨g, 4, none⟩ = some (.int .i64 o.n) ∧ W.cell? ⟨g, 5, none⟩ = some (.int .i64 o.keep) :=
  ⟨cell_at h 0, cell_at h 1, cell_at h 2, cell_at h 3, cell_at h 4, cell_at h 5⟩
theorem read_len {t : Dk} (h : DkOk t) (x : Nm) : (readD t x).1.length ≤ 1048576 := by
  unfold readD
  split
  · exact Nat.zero_le _
  · split
    · split
      · exact Nat.zero_le _
      · rename_i f hf
        exact (h.ok f (find_mem hf)).2.1
    · exact Nat.zero_le _
theorem names_len {t : Dk} (h : DkOk t) : (names t.fs).length < 1099511627776 := by
  have := h.len
  unfold names
  rw [List.length_map]
  omega
theorem two_fr {v w : World} {d e : Nat} {s t : Dk} (h : Two v No No w d e s t) : Fr No v w := h.fr.mono (fun i _ k => by rcases k with k | k <;> exact k.elim)
set_option maxRecDepth 100000 in
set_option maxHeartbeats 4000000 in
theorem farm_any {p : Option Go.Addr} {c : Nat} {l : List Op6} {n : Int} {last : Op6} (hla : okO last) (hl2 : last.data.length ≤ 140737488351232) (hok : ∀ x ∈ l, okO x ∧ x.data.length ≤ 140737488351232) (w : World) (h : OpsAt w p l) :
    Calls Try.prog 5 #[.slice p l.length c, .int .i64 n, opV last] w (Tells w (.bool true)) := by
  have F0 := Fr.alloc w (.cells #[.int .i64 last.kind, .int .i64 last.on, St last.name, St last.data, .int .i64 last.n, .int .i64 last.keep] 29)
  have B0 := (MapKept.heap_alloc w (.cells #[.int .i64 last.kind, .int .i64 last.on, St last.name, St last.data, .int .i64 last.n, .int .i64 last.keep] 29)).1
  have HC := hide (h.no F0)
  have HLA : Hid (∀ W, Fr No (w.alloc (.cells #[.int .i64 last.kind, .int .i64 last.on, St last.name, St last.data, .int .i64 last.n, .int .i64 last.keep] 29)) W →
      W.cell? ⟨w.heap.size, 3, none⟩ = some (St last.data) ∧ W.cell? ⟨w.heap.size, 5, none⟩ = some (.int .i64 last.keep)) := hide (fun W F => by
    have := F.keep B0 (fun e => e)
    exact ⟨cell_at this 3, cell_at this 5⟩)
  have HF0 := hide F0
  have HOK := hide hok
  obtain ⟨lk, lo, ln, ld, lm, lp⟩ := last
  obtain ⟨_, _, _, _, _, hkp⟩ := hla
  simp only at hkp hl2 HLA HC HF0
  have HKP := hide hkp
  have HB0 := hide (show w.heap.size < (w.alloc (.cells #[.int .i64 lk, .int .i64 lo, St ln, St ld, .int .i64 lm, .int .i64 lp] 29)).heap.size by simp)
  obtain ⟨cut, hcut, hcl⟩ := cut_of n
  clear h F0 B0 hok hkp
  go_enter Try.func5, Try.ntmps5
  go_wp2_with fail
  refine (awake_any names_ok _).mono ?_
  generalize w.alloc (.cells #[.int .i64 lk, .int .i64 lo, St ln, St ld, .int .i64 lm, .int .i64 lp] 29) = w0 at *
  rintro e1 w1 ⟨rfl, F1⟩
  go_wp2_with fail
  refine (ses_new F1).mono ?_
  rintro e2 w2 ⟨d, rfl, H2⟩
  go_wp2_with fail
  refine (new_any w2).mono ?_
  rintro e3 w3 ⟨e, rfl, k2, k3, k4⟩
  have H3 : Two w0 No No w3 d e newD newD := two_start H2 ⟨e, rfl, k2, k3, k4⟩
  clear H2 k2 k3 k4 F1
  obtain ⟨c3, c5⟩ := HLA.out w3 (two_fr H3)
  go_wp2
  go_loopw [9, 10] (fun al i wr => ∃ (A k : Nat), al = .int .i64 (A : Int) ∧ i = .int .i64 (k : Int) ∧ A ≤ 140737488351232 ∧ k ≤ l.length ∧ wr = w3) (fun _ i _ => l.length - (intOf i).toNat)
  case atStart => exact ⟨_, 0, rfl, rfl, hl2, Nat.zero_le _, rfl⟩
  case round =>
    obtain ⟨A, k, rfl, rfl, hA, hk, rfl⟩ := hrel
    by_cases hlt : k < l.length ∧ k < 300
    · obtain ⟨hlt1, hlt2⟩ := hlt
      have hlt3 : (k : Int) < (l.length : Int) := by omega
      have hlt4 : (k : Int) < 300 := by omega
      obtain ⟨b, o, rfl, _, _, _, _, x3, _, _⟩ := (HC.out.no (two_fr H3)) k hlt1
      have hdl := (HOK.out _ (List.getElem_mem hlt1)).2
      generalize l[k].data = data at *
      by_cases hbig : 262144 < A + data.length
      · have hb1 : 262144 < (A : Int) + (data.length : Int) := by omega
        go_wp2
        go_ret
        exact ⟨rfl, HF0.out.andNo (two_fr H3)⟩
      · have hb1 : ¬ 262144 < (A : Int) + (data.length : Int) := by omega
        go_wp2
        go_roundw
        case rel => exact ⟨A + data.length, k + 1, by go_num, by go_num, by omega, by omega, by first | rfl | trivial⟩
        case measure => simp [intOf]; omega
    · have hexit : (¬ (k : Int) < 300 ∧ (k : Int) < (l.length : Int)) ∨ ¬ (k : Int) < (l.length : Int) := by omega
      rcases hexit with ⟨q1, q2⟩ | q1
      all_goals
        go_wp2_with fail
        refine (two_arm1 H3 (by omega) HKP.out arm_start).mono ?_
        rintro e4 w4 ⟨rfl, H4⟩
        clear H3 c3 c5
        go_wp2
        go_loopw [12, 13] (fun dn i wr => ∃ (k n : Nat) (t : Dk), dn = .int .i64 (n : Int) ∧ i = .int .i64 (k : Int) ∧ k ≤ l.length ∧ k ≤ 300 ∧ n ≤ cut ∧ n ≤ k ∧ Hid (t.down = false ∧ t.left = -1 ∧ t.steps = n) ∧ Two w0 No No wr d e (armS t ((cut : Int) - (n : Int)) lp) t) (fun _ i _ => l.length - (intOf i).toNat)
        case atStart => exact ⟨0, 0, newD, rfl, rfl, Nat.zero_le _, by omega, Nat.zero_le _, Nat.zero_le _, hide ⟨rfl, rfl, rfl⟩, by simpa using H4⟩
        case round =>
          clear H4
          obtain ⟨k, m, t, rfl, rfl, hk1, hk2, hm1, hm2, HT, H5⟩ := hrel
          by_cases hlt : k < l.length ∧ k < 300
          · obtain ⟨hlt1, hlt2⟩ := hlt
            have hlt3 : (k : Int) < (l.length : Int) := by omega
            have hlt4 : (k : Int) < 300 := by omega
            obtain ⟨b, o, rfl, _, x0, x1, x2, x3, x4, x5⟩ := (HC.out.no (two_fr H5)) k hlt1
            obtain ⟨hox, hdl⟩ := HOK.out _ (List.getElem_mem hlt1)
            generalize l[k] = op at *
            by_cases hkind : op.kind < 1 ∨ 5 < op.kind
            · rcases hkind with hkind | hkind
              all_goals
                go_wp2
                go_roundw
                case rel => exact ⟨k + 1, m, t, rfl, by go_num, by omega, by omega, hm1, by omega, HT, H5.no (Fr.alloc _ _)⟩
                case measure => simp [intOf]; omega
            · have hk3 : 1 ≤ op.kind := by omega
              have hk4 : op.kind ≤ 5 := by omega
              obtain ⟨O, Q, hO, hQ, hB, hBack⟩ := H5.base
              have HBK := hide hBack
              have F1 : Fr No wr (wr.alloc (.cells (opC op) 29)) := Fr.alloc _ _
              have B1 := (MapKept.heap_alloc wr (.cells (opC op) 29)).1
              have H6 := H5.no F1
              have ok2 := H5.ok2
              have RL := hide (read_len ok2 op.name)
              have NL := hide (names_len ok2)
              have AC := hide (act_cases t HT.out.1 ok2.srt op)
              have KEEP : Hid (∀ w6, Fr No (wr.alloc (.cells (opC op) 29)) w6 → ∀ W, Fr (fun i => O i ∨ Q i) w6 W → W.heap[wr.heap.size]? = some (.cells (opC op) 29 (0, 0))) := hide (fun w6 F6 W F => F.keep (F6.keep B1 (fun e => e)) (fun e => by
                rcases e with e | e
                · have := hO _ e; omega
                · have := hQ _ e; omega))
              have KROW : Hid (∀ w6 x, w6.ownsRow (wr.heap.size + 1) 9 1 x (names t.fs).length ((names t.fs).map St) → ∀ W, Fr (fun i => O i ∨ Q i) w6 W → RowS W x (names t.fs)) := hide (fun w6 x hx W F => RowS.own (own_fr hx F (fun i hi e => by
                have := (hx.lt i hi).1
                rcases e with e | e
                · have := hO _ e; omega
                · have := hQ _ e; omega)))
              have HBB := hide hB
              have SZ : (wr.alloc (.cells (opC op) 29)).heap.size = wr.heap.size + 1 := by simp
              have HSZ := hide SZ
              clear hB hBack hO hQ ok2 SZ H5 B1
              obtain ⟨Qx, hQx, _⟩ := H6.right
              go_wp2_with fail
              refine (steps_any hQx).mono ?_
              rintro e5 w5 ⟨rfl, EW⟩
              rw [HT.out.2.2]
              subst EW
              clear hQx
              go_wp2_with fail
              refine (two_names2 H6).mono ?_
              rintro e6 w6 ⟨xr, rfl, F6, _, R6⟩
              rw [HSZ.out] at R6
              have H7 := HBB.out w6 (F1.andNo F6)
              have KP := hide (KEEP.out w6 F6)
              have KR := hide (KROW.out w6 xr R6)
              clear H6 R6
              obtain ⟨y0, y1, y2, y3, y4, y5⟩ := op_cells (KP.out w6 (Fr.refl _ _))
              cases hrd : readD t op.name with
              | mk old rc =>
              rw [hrd] at RL
              go_wp2_with fail
              refine (two_read2 H7 hox.2.2.1 hrd).mono ?_
              rintro e7 w7 ⟨rfl, H8⟩
              clear H7 y0 y1 y2 y3 y4 y5
              obtain ⟨y0, y1, y2, y3, y4, y5⟩ := op_cells (KP.out w7 H8.fr)
              have HRD := hide hrd
              clear hrd
              rcases AC.out with ⟨c, hc0, hc⟩ | ⟨F, hnm, hgo, hoff, hf1, hf2⟩
              · go_wp2_with fail
                refine (two_act2 H8 (by rw [HT.out.2.2]; omega) hox (hc t rfl HT.out.1)).mono ?_
                rintro e8 w8 ⟨rfl, H9⟩
                clear H8 y0 y1 y2 y3 y4 y5
                obtain ⟨y0, y1, y2, y3, y4, y5⟩ := op_cells (KP.out w8 H9.fr)
                go_wp2_with fail
                refine (two_act1 H9 (by show t.steps < _; rw [HT.out.2.2]; omega) hox (hc (armS t _ lp) rfl HT.out.1)).mono ?_
                rintro e9 w9 ⟨rfl, H10⟩
                clear H9 y0 y1 y2 y3 y4 y5
                go_wp2_with fail
                refine (two_steps2 H10 HT.out.2.2).mono ?_
                rintro e10 w10 ⟨rfl, H11⟩
                clear H10
                go_wp2
                go_roundw
                case rel => exact ⟨k + 1, m, t, rfl, by go_num, by omega, by omega, hm1, by omega, HT, HBK.out _ _ _ _ (F1.andNo F6) H11⟩
                case measure => simp [intOf]; omega
              · go_wp2_with fail
                refine (two_act2 H8 (by rw [HT.out.2.2]; omega) hox (hgo t rfl HT.out.1 (by rw [HT.out.2.1]; decide))).mono ?_
                rintro e8 w8 ⟨rfl, H9⟩
                clear H8 y0 y1 y2 y3 y4 y5
                obtain ⟨y0, y1, y2, y3, y4, y5⟩ := op_cells (KP.out w8 H9.fr)
                have HT2 := hide (show (tick { t with fs := F }).steps = m + 1 by show t.steps + 1 = _; rw [HT.out.2.2])
                by_cases hmc : m < cut
                · have hmc2 : (m : Int) < (cut : Int) := by omega
                  have e9 := (hgo (armS t ((cut : Int) - (m : Int)) lp) rfl HT.out.1 (by show (cut : Int) - (m : Int) ≠ 0; omega))
                  rw [arm_tick hmc] at e9
                  go_wp2_with fail
                  refine (two_act1 H9 (by show t.steps < _; rw [HT.out.2.2]; omega) hox e9).mono ?_
                  rintro e9 w9 ⟨rfl, H10⟩
                  clear H9 y0 y1 y2 y3 y4 y5 e9
                  go_wp2_with fail
                  refine (two_steps2 H10 HT2.out).mono ?_
                  rintro e10 w10 ⟨rfl, H11⟩
                  clear H10
                  go_wp2_with fail
                  refine (two_steps1 H11 (n := m + 1) (by show (tick { t with fs := F }).steps = _; exact HT2.out)).mono ?_
                  rintro e11 w11 ⟨rfl, H12⟩
                  clear H11
                  go_wp2
                  go_roundw
                  case rel => exact ⟨k + 1, m + 1, tick { t with fs := F }, by go_num, by go_num, by omega, by omega, hmc, by omega, hide ⟨HT.out.1, tick_un HT.out.2.1 F, HT2.out⟩, HBK.out _ _ _ _ (F1.andNo F6) H12⟩
                  case measure => simp [intOf]; omega
                · obtain rfl : m = cut := by omega
                  go_wp2_with fail
                  refine (two_act1 H9 (by show t.steps < _; rw [HT.out.2.2]; omega) hox (hoff (armS t ((m : Int) - (m : Int)) lp) rfl HT.out.1 (by show (m : Int) - (m : Int) = 0; omega))).mono ?_
                  rintro e9 w9 ⟨rfl, H10⟩
                  clear H9 y0 y1 y2 y3 y4 y5
                  go_wp2_with fail
                  refine (two_steps2 H10 HT2.out).mono ?_
                  rintro e10 w10 ⟨rfl, H11⟩
                  clear H10
                  go_wp2_with fail
                  refine (two_down1 H11 (b := true) rfl).mono ?_
                  rintro e11 w11 ⟨rfl, H12⟩
                  clear H11
                  go_wp2_with fail
                  refine (two_steps1 H12 (n := m) (by split <;> exact HT.out.2.2)).mono ?_
                  rintro e12 w12 ⟨rfl, H13⟩
                  clear H12
                  go_wp2_with fail
                  refine (two_on1 H13 rfl).mono ?_
                  rintro e13 w13 ⟨rfl, H14⟩
                  clear H13
                  obtain ⟨y0, y1, y2, y3, y4, y5⟩ := op_cells (KP.out w13 H14.fr)
                  by_cases hkd : op.kind = 1
                  · obtain ⟨f, hf, hfd⟩ := hf1 hkd
                    rw [HRD.out] at hfd
                    rw [if_pos hkd] at H14
                    obtain ⟨kk, hkk⟩ := read_off (s := { (armS t ((m : Int) - (m : Int)) lp) with fs := F }) (keep := lp) hnm hf
                    obtain ⟨u, hu⟩ : ∃ u, u = f.data := ⟨_, rfl⟩
                    rw [← hu] at hfd hkk
                    have J1 : (({ data := old.toArray } : ByteArray) ++ { data := op.data.toArray }) = { data := u.toArray } := by rw [hfd]; exact bytes_app _ _
                    obtain ⟨q, hq⟩ : ∃ q, q = u.take kk := ⟨_, rfl⟩
                    rw [← hq] at hkk
                    have J2 : ({ data := u.toArray } : ByteArray).extract 0 q.length = { data := q.toArray } := by
                      rw [bytes_take, hq, List.length_take]
                      congr 2
                      rcases Nat.le_total kk u.length with h | h
                      · rw [Nat.min_eq_left h]
                      · rw [Nat.min_eq_right h, List.take_of_length_le h, List.take_of_length_le (Nat.le_refl _)]
                    have hul : u.length = old.length + op.data.length := by rw [hfd]; simp
                    have hql : q.length ≤ u.length := by rw [hq, List.length_take]; omega
                    have hql2 : q.length ≤ old.length + op.data.length := by omega
                    have hold : old.length ≤ 1048576 := RL.out
                    have hul2 : (u.length : Int) = (old.length : Int) + (op.data.length : Int) := by omega
                    clear hfd hu hq hul hf hf1 hf2
                    go_wp2_with fail
                    refine (two_read1 H14 hox.2.2.1 hkk).mono ?_
                    rintro e14 w14 ⟨rfl, H15⟩
                    clear H14 y0 y1 y2 y3 y4 y5 hkk
                    obtain ⟨y0, y1, y2, y3, y4, y5⟩ := op_cells (KP.out w14 H15.fr)
                    rw [hkd] at y0
                    go_wp2
                    go_ret
                    exact ⟨rfl, HF0.out.andNo (two_fr (HBK.out _ _ _ _ (F1.andNo F6) H15))⟩
                  · obtain ⟨f, hf, hfr⟩ := hf2 hkd
                    rw [HRD.out] at hfr
                    rw [if_neg hkd] at H14
                    have hfd : old = f.data := (Prod.mk.inj hfr).1
                    obtain ⟨kk, hkk⟩ := read_off (s := armS t ((m : Int) - (m : Int)) lp) (keep := lp) hnm hf
                    rw [← hfd] at hkk
                    obtain ⟨q, hq⟩ : ∃ q, q = old.take kk := ⟨_, rfl⟩
                    rw [← hq] at hkk
                    have J2 : ({ data := old.toArray } : ByteArray).extract 0 q.length = { data := q.toArray } := by
                      rw [bytes_take, hq, List.length_take]
                      congr 2
                      rcases Nat.le_total kk old.length with h | h
                      · rw [Nat.min_eq_left h]
                      · rw [Nat.min_eq_right h, List.take_of_length_le h, List.take_of_length_le (Nat.le_refl _)]
                    have hql : q.length ≤ old.length := by rw [hq, List.length_take]; omega
                    have hold : old.length ≤ 1048576 := RL.out
                    clear hfd hfr hq hf hf1 hf2
                    go_wp2_with fail
                    refine (two_read1 H14 hox.2.2.1 hkk).mono ?_
                    rintro e14 w14 ⟨rfl, H15⟩
                    clear H14 y0 y1 y2 y3 y4 y5 hkk
                    obtain ⟨y0, y1, y2, y3, y4, y5⟩ := op_cells (KP.out w14 H15.fr)
                    go_wp2_with fail
                    refine (two_names1 H15).mono ?_
                    rintro e15 w15 ⟨xr2, rfl, F15, H16, R16⟩
                    rw [names_off] at R16
                    go_wp2_with fail
                    refine (names_any (RowS.own R16) (KR.out w15 H16.fr) NL.out).mono ?_
                    rintro e16 w16 ⟨rfl, F16⟩
                    go_wp2
                    go_ret
                    exact ⟨congrArg Ending.returned (bool_eq (decide_eq_true rfl)), HF0.out.andNo (two_fr (HBK.out _ _ _ _ (F1.andNo F6) (H16.no F16)))⟩
          · have hexit2 : (¬ (k : Int) < 300 ∧ (k : Int) < (l.length : Int)) ∨ ¬ (k : Int) < (l.length : Int) := by omega
            have ok1 := H5.ok2
            have NL := hide (names_len ok1)
            clear ok1
            rcases hexit2 with ⟨g1, g2⟩ | g1
            all_goals
              go_wp2_with fail
              refine (two_down1 H5 (b := false) HT.out.1).mono ?_
              rintro e6 w6 ⟨rfl, H6⟩
              go_wp2_with fail
              refine (two_names1 H6).mono ?_
              rintro e7 w7 ⟨xr, rfl, F7, H7, R7⟩
              go_wp2_with fail
              refine (two_names2 H7).mono ?_
              rintro e8 w8 ⟨xr2, rfl, F8, H8, R8⟩
              go_wp2_with fail
              refine (names_any ((RowS.own R7).no F8) (RowS.own R8) NL.out).mono ?_
              rintro e9 w9 ⟨rfl, F9⟩
              go_wp2
              go_ret
              exact ⟨congrArg Ending.returned (bool_eq (decide_eq_true rfl)), HF0.out.andNo (two_fr (H8.no F9))⟩
end Go.Proofs.Ytplnfbhjplbpiaa
