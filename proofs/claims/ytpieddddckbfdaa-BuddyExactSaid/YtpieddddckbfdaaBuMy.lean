/-
  The walk of BuddyMemory: it returns true. Condition: the words are words of 64 bits, the ints ints of 64 bits (every value of the types is such).
-/
import Derived.Test.YtpieddddckbfdaaBuK
import Derived.Test.YtpieddddckbfdaaBuH
import Derived.OwnWalk
import Derived.Deep.DeepCutAuto
namespace Go.Proofs.Ytpieddddckbfdaa
open Go.RowKit Go.Joins

theorem take_len (p : Bk) (L : List Bk) (bits : Int) : (takeL p L bits).1.length ≤ L.length + 128 := by
  by_cases h : goodL p L = true ∧ p.2 ≤ bits ∧ bits ≤ 128
  · cases hb : bestL L bits L.length with
    | none => rw [take_none h.1 h.2.1 h.2.2 hb]; simp
    | some j =>
      obtain ⟨t1, _, _, _, t5, _⟩ := take_spec h.1 h.2.1 h.2.2 hb
      rw [t1]
      exact t5.len
  · have : takeL p L bits = ([], (0, 0), 1) := by
      refine take_bad ?_
      cases hg : goodL p L with
      | false => exact Or.inl rfl
      | true =>
        rw [hg] at h
        simp only [true_and] at h
        omega
    rw [this]
    simp
theorem reserve_len (p : Bk) (L : List Bk) (b : Bk) : (reserveL p L b).1.length ≤ L.length + 128 := by
  cases hg : goodL p L with
  | false => rw [reserve_bad (Or.inl hg)]; simp
  | true =>
    rcases reserve_cases (b := b) hg with ⟨n, h, _⟩ | ⟨R, h, _, _, hR⟩
    · rw [h]; simp
    · rw [h]; exact hR.len
theorem give_len (p : Bk) (L : List Bk) (b : Bk) : (giveL p L b).1.length ≤ L.length + 128 := by
  cases hg : goodL p L with
  | false => rw [give_bad (Or.inl hg)]; simp
  | true =>
    cases hc : covB p b with
    | false => rw [give_bad (Or.inr hc)]; simp
    | true =>
      rw [give_ok hg hc]
      cases hm : anyM L b with
      | true => rw [if_pos rfl]; simp
      | false =>
        rw [if_neg (by simp)]
        have := (give_spec hg hc hm).len
        simp only
        omega
/-- what is read throughout, in memory that is newer than V's only -/
def KM (w : World) (p b : Bk) (vf vm : Value) (F M : List Bk) (V W : World) : Prop := Below V.heap.size V W ∧ HH w p b W ∧ Lst vf F W ∧ Lst vm M W
theorem KM.step {w : World} {p b : Bk} {vf vm : Value} {F M : List Bk} {V W w2 : World} (h : KM w p b vf vm F M V W) (hb : Below W.heap.size W w2) : KM w p b vf vm F M V w2 := ⟨chain h.1 hb, h.2.1.step hb, h.2.2.1.step hb, h.2.2.2.step hb⟩
theorem KM.step8 {w : World} {p b : Bk} {vf vm : Value} {F M : List Bk} {V W w2 : World} (h : KM w p b vf vm F M V V) (hV : Below V.heap.size V W) (hb : Below V.heap.size W w2) : KM w p b vf vm F M V w2 := h.step (hV.trans hb)
theorem KM.now {w : World} {p b : Bk} {vf vm : Value} {F M : List Bk} {V W : World} (h : KM w p b vf vm F M V W) : KM w p b vf vm F M W W := ⟨Below.refl _ _, h.2⟩
theorem KM.at {w : World} {p b : Bk} {vf vm : Value} {F M : List Bk} {V W w2 : World} (h : KM w p b vf vm F M V W) (hb : Below W.heap.size W w2) : KM w p b vf vm F M W w2 := h.now.step hb

/-- all that is newer than lo stays -/
def Ab (V : World) (top : Nat) (W : World) : Prop := V.heap.size ≤ W.heap.size ∧ ∀ k, top ≤ k → k < V.heap.size → W.heap[k]? = V.heap[k]?
theorem Ab.refl (V : World) (top : Nat) : Ab V top V := ⟨Nat.le_refl _, fun _ _ _ => rfl⟩
theorem Ab.step {V W W2 : World} {top : Nat} (h : Ab V top W) (hb : Below W.heap.size W W2) : Ab V top W2 :=
  ⟨Nat.le_trans h.1 hb.size, fun k h1 h2 => by rw [hb.block k (Nat.lt_of_lt_of_le h2 h.1)]; exact h.2 k h1 h2⟩
theorem Ab.set {V W : World} {top : Nat} (h : Ab V top W) {p : Go.Addr} (hp : p.block < top) (u : Value) : Ab V top (W.setCell p u) :=
  ⟨by simpa using h.1, fun k h1 h2 => by rw [Below.heap_setCell W p u k (by omega)]; exact h.2 k h1 h2⟩
theorem own_ab {V W : World} {base n size top : Nat} {e : TypeId} {v : Value} {xs : List Value} (h : V.ownsRow base e size v n xs) (hab : Ab V top W) (hlo : top ≤ base) : W.ownsRow base e size v n xs := by
  refine ⟨h.1, ?_⟩
  rcases h.2 with hn | ⟨g, cap, cur, h1, h2, h3, h4⟩
  · exact Or.inl hn
  · have hl : g < V.heap.size := by
      rcases Nat.lt_or_ge g V.heap.size with h' | h'
      · exact h'
      · rw [Array.getElem?_eq_none h'] at h3; cases h3
    exact Or.inr ⟨g, cap, cur, h1, h2, by rw [hab.2 g (by omega) hl]; exact h3, h4⟩
theorem own_below {V W : World} {base n size n0 : Nat} {e : TypeId} {v : Value} {xs : List Value} (h : V.ownsRow base e size v n xs) (hb : Below n0 V W) (hlt : ∀ k, v.ownBlock = some k → k < n0) : W.ownsRow base e size v n xs := by
  refine ⟨h.1, ?_⟩
  rcases h.2 with hn | ⟨g, cap, cur, rfl, h2, h3, h4⟩
  · exact Or.inl hn
  · exact Or.inr ⟨g, cap, cur, rfl, h2, by rw [hb.block g (hlt g rfl)]; exact h3, h4⟩
theorem own_subv {W : World} {base : Nat} {v : Value} {l : List Bk} (h : Own W base v l) : ∀ k, v.ownBlock = some k → k < W.heap.size := fun k e => (h.lt k e).2
theorem own_sub {W : World} {base : Nat} {p : Option Go.Addr} {c : Nat} {l : List Bk} (h : Own W base (.slice p l.length c) l) : ∀ k, (Value.slice p l.length c).ownBlock = some k → k < W.heap.size := fun k e => (h.lt k e).2

set_option maxRecDepth 100000 in
set_option maxHeartbeats 4000000 in
theorem memory_any {v : Value} {p b : Bk} {l : List Bk} (fp : FitB p) (fb : FitB b) (hf : FitL l) (w : World) (hv : Lst v l w) :
    Calls Try.prog 6 #[Bv p, v, Bv b] w (Gives (.bool true) w) := by
  obtain ⟨i0, hi0, hz0, hz1, hz2⟩ := info_parts infoP
  have AW := hide (fun W => awake_any W)
  have H0 := he_new w p b hv
  obtain ⟨q, c, rfl⟩ := lst_len hv
  clear hv
  by_cases hl : 40 < l.length
  · go_enter Try.func6, Try.ntmps6
    go_wp2_with fail
    refine (AW.out _).mono ?_
    rintro e w1 ⟨rfl, hb1⟩
    have H1 := H0.step hb1
    clear H0 hb1
    go_wp2
    go_ret
    exact ⟨rfl, H1.1.1⟩
  have FV := hide (fun W v (H : Lst v l W) => free_any fp hf (show l.length ≤ 200 by omega) W H)
  rcases free_cases p l with ⟨n, h1, h2⟩ | ⟨F, h1, _, _, h4, h5, _⟩
  · rw [h1] at FV
    have EE : (n != 0) = true := by have h0 : n ≠ 0 := (by omega); simpa using h0
    clear h1 h2
    go_enter Try.func6, Try.ntmps6
    go_wp2_with fail
    refine (AW.out _).mono ?_
    rintro e w1 ⟨rfl, hb1⟩
    have H1 := H0.step hb1
    clear H0 hb1 AW
    obtain ⟨z, ⟨x1, x2, x3⟩, _⟩ := H1.1.all
    go_wp2_with fail
    clear z x1 x2 x3
    refine (FV.out _ _ H1.2).mono ?_
    rintro e w2 ⟨vf, rfl, hb2, O2⟩
    have H2 := H1.step hb2
    clear H1 hb2 O2 FV
    go_wp2
    go_ret
    exact ⟨rfl, H2.1.1⟩
  rw [h1] at FV
  have hFf := good_fit fp.1 h4
  have hFl : F.length ≤ 6000 := by omega
  clear h1 h4 h5
  -- what the calls give
  obtain ⟨X1, P1, E1, hT⟩ : ∃ X P E, takeL p F b.2 = (X, P, E) := ⟨_, _, _, rfl⟩
  obtain ⟨R1, E2, hR⟩ : ∃ R E, reserveL p F b = (R, E) := ⟨_, _, rfl⟩
  obtain ⟨G1, E3, hG⟩ : ∃ R E, giveL p F b = (R, E) := ⟨_, _, rfl⟩
  have lX := take_len p F b.2
  have lR := reserve_len p F b
  have lG := give_len p F b
  rw [hT] at lX
  rw [hR] at lR
  rw [hG] at lG
  simp only at lX lR lG
  have TK := hide (fun W v (H : Lst v F W) => take_any (bits := b.2) fp hFf (show F.length ≤ 100000 by omega) W H)
  have RV := hide (fun W v (H : Lst v F W) => reserve_any fp fb hFf (show F.length ≤ 100000 by omega) W H)
  have GV := hide (fun W v (H : Lst v F W) => give_any fp fb hFf (show F.length ≤ 100000 by omega) W H)
  rw [hT] at TK
  rw [hR] at RV
  rw [hG] at GV
  clear hT hR hG hFf
  have SF := hide (fun W v u (H : Lst v F W) (K : Lst u F W) => same_yes rfl (show F.length ≤ 1000000 by omega) W H K)
  have SX := hide (fun W v u (H : Lst v X1 W) (K : Lst u X1 W) => same_yes rfl (show X1.length ≤ 1000000 by omega) W H K)
  obtain ⟨X, hX⟩ : ∃ X : Bk, X = blk 1 64 := ⟨_, rfl⟩
  obtain ⟨Y, hY⟩ : ∃ Y : Bk, Y = blk 2 64 := ⟨_, rfl⟩
  obtain ⟨Z, hZ⟩ : ∃ Z : Bk, Z = blk 9 9 := ⟨_, rfl⟩
  have BX := hide (fun W => block_any (g := 1) (by omega) 1 rfl 64 W)
  have BY := hide (fun W => block_any (g := 2) (by omega) 2 rfl 64 W)
  have BZ := hide (fun W => block_any (g := 9) (by omega) 9 rfl 9 W)
  rw [← hX] at BX
  rw [← hY] at BY
  rw [← hZ] at BZ
  clear hX hY hZ
  go_enter Try.func6, Try.ntmps6
  go_wp2_with fail
  refine (AW.out _).mono ?_
  rintro e w1 ⟨rfl, hb1⟩
  have H1 := H0.step hb1
  clear H0 hb1 AW
  obtain ⟨z, ⟨x1, x2, x3⟩, _⟩ := H1.1.all
  go_wp2_with fail
  clear z x1 x2 x3
  refine (FV.out _ _ H1.2).mono ?_
  rintro e w2 ⟨vf, rfl, hb2, O2⟩
  have L2 := own_lst O2
  have H2 := H1.1.step hb2
  clear H1 hb2 O2 FV
  obtain ⟨pf, cf, rfl⟩ := lst_len L2
  generalize hn : F.length = n at *
  have nF : Hid (F.length = n) := hide hn
  go_wp2_with (first
    | (at_make; refine wpList_make_own _ rfl _ _ 27 rfl w2.heap.size 26 i0 (.agg #[.int .u64 0, .int .u64 0, .int .i64 0]) 3 Try.underlying27 hi0 hz0 hz1 _ _ _ (n + 2) rfl rfl (by omega) (by rw [hz2]; omega) (by unfold maxLen; omega) (Nat.le_refl _) ?_; intro w3 hown3 hgrow3; have B3 : Below w2.heap.size w2 w3 := (Below.refl _ _).grown hgrow3 (Nat.le_refl _) (fun k h => by cases h); have S3 := L2.step B3)
    | (at_builtin; refine wpList_append_lst rfl (.tmp 44) (.tmp 45) rfl w2.heap.size _ [] rfl hown3 _ F rfl S3 (by simp; omega) B3.size ?_; intro v4 w4 O4 HB4 hg0; clear hg0; have B4 := B3.trans HB4; rw [List.nil_append] at O4; clear hown3 hgrow3 S3 B3 HB4))
  refine (BX.out _).mono ?_
  rintro e w5 ⟨rfl, hb5⟩
  have B5 := B4.trans (hb5.mono B4.size)
  have O5 := own_keep O4 hb5
  clear O4 hb5 B4
  go_wp2_with fail
  refine (BY.out _).mono ?_
  rintro e w6 ⟨rfl, hb6⟩
  have B6 := B5.trans (hb6.mono B5.size)
  have O6 := own_keep O5 hb6
  clear O5 hb6 B5
  have RT := lst_two w6 X Y 26
  have BA := below_alloc w6 (.cells #[.int .u64 (hi X.1 : Nat), .int .u64 (lo X.1 : Nat), .int .i64 X.2, .int .u64 (hi Y.1 : Nat), .int .u64 (lo Y.1 : Nat), .int .i64 Y.2] 26)
  have OA := own_keep O6 BA
  have B7 := B6.trans (BA.mono B6.size)
  go_wp2_with (at_builtin; refine wpList_append_lst rfl (.tmp 47) (.tmp 50) rfl w2.heap.size _ F rfl OA _ [X, Y] rfl RT (by simp; omega) B7.size ?_; intro v8 w8 O8 HB8 hg0; clear hg0; have B8 := B7.trans HB8; clear RT BA OA O6 B7 HB8 B6)
  have M8 := own_lst O8
  rcases M8 with ⟨_, _, _, e, _⟩ | ⟨bm, om, c8, rfl, R8, q1, q3, q2⟩
  · simp at e
  have LM8 : Lst (.slice (some ⟨bm, om, none⟩) n c8) F w8 := by
    have := lst_take (f := F.length) (Or.inr ⟨bm, om, c8, rfl, R8, q1, q3, q2⟩ : Lst (.slice (some ⟨bm, om, none⟩) (F ++ [X, Y]).length c8) (F ++ [X, Y]) w8) (by simp)
    rw [List.take_left] at this
    have e := nF.out
    rwa [e] at this
  have MX : At bm (om + n * 3) X w8 := R8.2 n X (by have e := nF.out; simp [e])
  have MY : At bm (om + (n + 1) * 3) Y w8 := R8.2 (n + 1) Y (by have e := nF.out; simp [e])
  have L8 := L2.step B8
  have H8 := H2.step B8
  have K8 : KM w p b (.slice pf n cf) (.slice (some ⟨bm, om, none⟩) n c8) F F w8 w8 := ⟨Below.refl _ _, H8, L8, LM8⟩
  have ML : (F ++ [X, Y]).length = n + 2 := by have e := nF.out; simp [e]
  have BW8 : Below w.heap.size w w8 := H8.1
  rw [ML] at q1 ⊢
  have C8 : n ≤ c8 := by omega
  clear O8 R8 q1 q3 L2 L8 H2 H8 LM8 B8 ML
  go_upto_region 12 with fail
  go_cut [8, 11, 12] (fun s8 s11 s12 wx => ∃ g, s8 = .int .i64 E1 ∧ s12 = .pointer (some ⟨g, 0, none⟩) ∧ KM w p b (.slice pf n cf) (.slice (some ⟨bm, om, none⟩) n c8) F F w8 wx ∧ Own wx w8.heap.size s11 X1 ∧ Box g P1 wx)
  case first =>
    obtain ⟨z, ⟨x1, x2, x3⟩, ⟨y1, y2, y3⟩⟩ := K8.2.1.all
    have Z0 : w.heap.size < w8.heap.size := by omega
    go_region_with ((go_at_call 12; refine (TK.out _ _ (by first | exact K8.2.2.2.step (Below.refl _ _).drew | exact K8.2.2.2.step (chain (Below.refl _ _).drew (below_alloc _ _)))).mono ?_; rintro e wz ⟨vz, rfl, hbz, Az⟩; (first | (have BB := Box.step (box_new { w8 with drawn := w8.drawn + 1 } (0, 0) 26) hbz; obtain ⟨g1, ⟨g2, g3, g4⟩, g5, g6, g7⟩ := BB.all) | skip)))
    all_goals
      go_wp2_with fail
      go_meet
      first
        | exact ⟨_, rfl, rfl, K8.step (chain (chain (below_drew _) hbz) (below_alloc _ _)), own_keep Az (below_alloc _ _), box_new _ _ _⟩
        | exact ⟨_, rfl, rfl, K8.step ((((chain (chain (below_drew _) (below_alloc _ _)) hbz).setCell (Nat.le_refl _) _).setCell (Nat.le_refl _) _).setCell (Nat.le_refl _) _), own_base (own_far (own_far (own_far Az (by simp) _) (by simp) _) (by simp) _) (by simp), BB.put P1⟩
  obtain ⟨ga, rfl, rfl, K9, A9, B9⟩ := hcut
  generalize wc = w9 at *
  generalize u11 = vx at *
  have K90 := K9.now
  have Lx := own_subv A9
  go_upto_region 13 with fail
  go_cut [13, 14, 15] (fun s13 s14 s15 wx => ∃ g, s15 = .int .i64 E1 ∧ s14 = .pointer (some ⟨g, 0, none⟩) ∧ KM w p b (.slice pf n cf) (.slice (some ⟨bm, om, none⟩) n c8) F F w9 wx ∧ Own wx w9.heap.size s13 X1 ∧ Box g P1 wx)
  case first =>
    obtain ⟨z, ⟨x1, x2, x3⟩, ⟨y1, y2, y3⟩⟩ := K90.2.1.all
    have Z0 : w.heap.size < w9.heap.size := by omega
    go_region_with ((go_at_call 12; refine (TK.out _ _ (by first | exact K90.2.2.2.step (Below.refl _ _).drew | exact K90.2.2.2.step (chain (Below.refl _ _).drew (below_alloc _ _)))).mono ?_; rintro e wz ⟨vz, rfl, hbz, Az⟩; (first | (have BB := Box.step (box_new { w9 with drawn := w9.drawn + 1 } (0, 0) 26) hbz; obtain ⟨g1, ⟨g2, g3, g4⟩, g5, g6, g7⟩ := BB.all) | skip)))
    all_goals
      go_wp2_with fail
      go_meet
      first
        | exact ⟨_, rfl, rfl, K90.step (chain (chain (below_drew _) hbz) (below_alloc _ _)), own_keep Az (below_alloc _ _), box_new _ _ _⟩
        | exact ⟨_, rfl, rfl, K90.step ((((chain (chain (below_drew _) (below_alloc _ _)) hbz).setCell (Nat.le_refl _) _).setCell (Nat.le_refl _) _).setCell (Nat.le_refl _) _), own_base (own_far (own_far (own_far Az (by simp) _) (by simp) _) (by simp) _) (by simp), BB.put P1⟩
  obtain ⟨gb, rfl, rfl, Ka, Aa, Ba⟩ := hcut
  generalize wc = wa at *
  generalize u13 = vy at *
  have C9 := Ka.1
  replace A9 := own_keep A9 C9
  replace B9 := B9.step C9
  have N9 := K9.1.size
  have Na := C9.size
  replace K9 := K9.step C9
  clear K90
  obtain ⟨px, cx, rfl⟩ := lst_len (own_lst A9)
  obtain ⟨py, cy, rfl⟩ := lst_len (own_lst Aa)
  obtain ⟨i1, ⟨i2, i3, i4⟩, _⟩ := B9.all
  obtain ⟨j1, ⟨j2, j3, j4⟩, _⟩ := Ba.all
  have EE : (E1 != E1) = false := by simp
  have NE := fun W => neq_run P1 P1 W
  rw [decide_eq_true rfl] at NE
  go_wp2_with fail
  clear i1 i2 i3 i4 j1 j2 j3 j4 EE NE B9 Ba
  refine (SX.out _ _ _ (own_lst A9) (own_lst Aa)).mono ?_
  rintro e wb ⟨rfl, hbb⟩
  have Kb := Ka.step hbb
  replace K9 := K9.step hbb
  have Nb := hbb.size
  have Hy := own_keep Aa hbb
  have Lb := own_sub Hy
  replace A9 := own_keep A9 hbb
  clear Ka Aa hbb C9
  go_upto_region 16 with fail
  refine wp_region_rel (KM w p b (.slice pf n cf) (.slice (some ⟨bm, om, none⟩) n c8) F F wb) [some 89, some 90, some 91, some 92, some 93, some 94, some 88, some 95, some 96, some 16, some 17] [fun yy _ => yy = Bv p, fun yy _ => yy = .slice (some ⟨bm, om, none⟩) (n + 2) c8, fun yy _ => yy = .int .i64 (n : Nat), fun yy _ => yy = .slice (some ⟨bm, om, none⟩) n c8, fun yy _ => yy = Bv b, fun yy W => ∃ v, yy = .tuple #[v, .int .i64 E2] ∧ Own W wb.heap.size v R1, fun yy W => ∃ v, yy = .tuple #[v, .int .i64 E2] ∧ Own W wb.heap.size v R1, fun yy W => Own W wb.heap.size yy R1, fun yy _ => yy = .int .i64 E2, fun yy W => Own W wb.heap.size yy R1, fun yy _ => yy = .int .i64 E2] 172 (by kernel_rfl) (by kernel_rfl) rfl rfl (Kb.now.step (Below.refl _ _).drew) ?_ ?_
  · refine ⟨⟨fun _ _ _ h _ => h, fun a' W K hC hd hf hK => ?_⟩, ⟨fun _ _ _ h _ => h, fun a' W K hC hd hf hK => ?_⟩, ⟨fun _ _ _ h _ => h, fun a' W K hC hd hf hK => ?_⟩, ⟨fun _ _ _ h _ => h, fun a' W K hC hd hf hK => ?_⟩, ⟨fun _ _ _ h _ => h, fun a' W K hC hd hf hK => ?_⟩, ⟨fun _ _ _ h hb => by obtain ⟨v, e, hl⟩ := h; exact ⟨v, e, own_keep hl hb⟩, fun a' W K hC hd hf hK => ?_⟩, ⟨fun _ _ _ h hb => by obtain ⟨v, e, hl⟩ := h; exact ⟨v, e, own_keep hl hb⟩, fun a' W K hC hd hf hK => ?_⟩, ⟨fun _ _ _ h hb => own_keep h hb, fun a' W K hC hd hf hK => ?_⟩, ⟨fun _ _ _ h _ => h, fun a' W K hC hd hf hK => ?_⟩, ⟨fun _ _ _ h hb => own_keep h hb, fun a' W K hC hd hf hK => ?_⟩, ⟨fun _ _ _ h _ => h, fun a' W K hC hd hf hK => ?_⟩, trivial⟩
    · refine op_plain rfl ?_
      have f3 : a'.tmps[3]?.getD undef = .pointer (some ⟨w.heap.size, 0, none⟩) := (hf.out 3 (by kernel_rfl)).trans (by simp)
      obtain ⟨_, ⟨u1, u2, u3⟩, ⟨v1, v2, v3⟩⟩ := hC.2.1.all
      go_simp
      exact hK.out _ _ hC (Below.refl _ _) rfl
    · refine op_plain rfl ?_
      have f10 : a'.tmps[10]?.getD undef = .slice (some ⟨bm, om, none⟩) (n + 2) c8 := (hf.out 10 (by kernel_rfl)).trans (by simp)
      go_simp
      exact hK.out _ _ hC (Below.refl _ _) rfl
    · refine op_plain rfl ?_
      have f9 : a'.tmps[9]?.getD undef = .int .i64 (n : Nat) := (hf.out 9 (by kernel_rfl)).trans (by simp)
      go_simp
      exact hK.out _ _ hC (Below.refl _ _) rfl
    · refine op_plain rfl ?_
      have d90 : a'.tmps[90]?.getD undef = .slice (some ⟨bm, om, none⟩) (n + 2) c8 := hd.out 1 90 (by kernel_rfl) rfl
      have d91 : a'.tmps[91]?.getD undef = .int .i64 (n : Nat) := hd.out 2 91 (by kernel_rfl) rfl
      go_simp
      exact hK.out _ _ hC (Below.refl _ _) rfl
    · refine op_plain rfl ?_
      have f5 : a'.tmps[5]?.getD undef = .pointer (some ⟨w.heap.size + 1, 0, none⟩) := (hf.out 5 (by kernel_rfl)).trans (by simp)
      obtain ⟨_, ⟨u1, u2, u3⟩, ⟨v1, v2, v3⟩⟩ := hC.2.1.all
      go_simp
      exact hK.out _ _ hC (Below.refl _ _) rfl
    · refine op_plain rfl ?_
      have d89 : a'.tmps[89]?.getD undef = Bv p := hd.out 0 89 (by kernel_rfl) rfl
      have d92 : a'.tmps[92]?.getD undef = .slice (some ⟨bm, om, none⟩) n c8 := hd.out 3 92 (by kernel_rfl) rfl
      have d93 : a'.tmps[93]?.getD undef = Bv b := hd.out 4 93 (by kernel_rfl) rfl
      go_simp
      refine (RV.out W _ hC.2.2.2).mono ?_
      rintro e W2 ⟨vv, rfl, hbW, hO⟩
      exact hK.out _ _ (KM.step hC hbW) hbW ⟨vv, rfl, own_base hO hC.1.size⟩
    · refine op_plain rfl ?_
      have d94 := hd.out 5 94 (by kernel_rfl) rfl
      go_simp
      exact hK.out _ _ hC (Below.refl _ _) d94
    · refine op_plain rfl ?_
      have d88 := hd.out 6 88 (by kernel_rfl) rfl
      obtain ⟨vv, e88, hL⟩ := d88
      go_simp
      exact hK.out _ _ hC (Below.refl _ _) hL
    · refine op_plain rfl ?_
      have d88 := hd.out 6 88 (by kernel_rfl) rfl
      obtain ⟨vv, e88, hL⟩ := d88
      go_simp
      exact hK.out _ _ hC (Below.refl _ _) rfl
    · refine op_plain rfl ?_
      have d95 := hd.out 7 95 (by kernel_rfl) rfl
      go_simp
      exact hK.out _ _ hC (Below.refl _ _) d95
    · refine op_plain rfl ?_
      have d96 : a'.tmps[96]?.getD undef = .int .i64 E2 := hd.out 8 96 (by kernel_rfl) rfl
      go_simp
      exact hK.out _ _ hC (Below.refl _ _) rfl
  · intro vs wc hC hR
    have q0 : vs 0 = Bv p := hR.out 0 (by decide)
    have q1 : vs 1 = .slice (some ⟨bm, om, none⟩) (n + 2) c8 := hR.out 1 (by decide)
    have q2 : vs 2 = .int .i64 (n : Nat) := hR.out 2 (by decide)
    have q3 : vs 3 = .slice (some ⟨bm, om, none⟩) n c8 := hR.out 3 (by decide)
    have q4 : vs 4 = Bv b := hR.out 4 (by decide)
    generalize hq5 : vs 5 = q5
    generalize hq6 : vs 6 = q6
    generalize hq7 : vs 7 = q7
    have q8 : vs 8 = .int .i64 E2 := hR.out 8 (by decide)
    have Ac := hR.out 9 (by decide)
    generalize hq9 : vs 9 = q9 at *
    change Own wc wb.heap.size q9 R1 at Ac
    have q10 : vs 10 = .int .i64 E2 := hR.out 10 (by decide)
    simp only [fillF, Act.put, List.setIfInBounds_toArray, List.set_cons_zero, List.set_cons_succ, Nat.reduceAdd, q0, q1, q2, q3, q4, hq5, hq6, hq7, q8, hq9, q10]
    clear hR q0 q1 q2 q3 q4 hq5 hq6 hq7 q8 hq9 q10
    have Kc := hC.now
    have Cc := hC.1
    replace K9 := K9.step Cc
    have Lc := own_subv Ac
    replace A9 := own_keep A9 Cc
    replace Hy := own_keep Hy Cc
    have Nc := Cc.size
    clear hC Kb RV Cc
    generalize q9 = vr at *
    go_wp2_with fail
    go_upto_region 17 with fail
    refine wp_region_rel (KM w p b (.slice pf n cf) (.slice (some ⟨bm, om, none⟩) n c8) F F wc) [some 98, some 99, some 100, some 101, some 102, some 103, some 97, some 104, some 105, some 18, some 19] [fun yy _ => yy = Bv p, fun yy _ => yy = .slice (some ⟨bm, om, none⟩) (n + 2) c8, fun yy _ => yy = .int .i64 (n : Nat), fun yy _ => yy = .slice (some ⟨bm, om, none⟩) n c8, fun yy _ => yy = Bv b, fun yy W => ∃ v, yy = .tuple #[v, .int .i64 E3] ∧ Own W wc.heap.size v G1, fun yy W => ∃ v, yy = .tuple #[v, .int .i64 E3] ∧ Own W wc.heap.size v G1, fun yy W => Own W wc.heap.size yy G1, fun yy _ => yy = .int .i64 E3, fun yy W => Own W wc.heap.size yy G1, fun yy _ => yy = .int .i64 E3] 172 (by kernel_rfl) (by kernel_rfl) rfl rfl (Kc.step (Below.refl _ _).drew) ?_ ?_
    · refine ⟨⟨fun _ _ _ h _ => h, fun a' W K hC hd hf hK => ?_⟩, ⟨fun _ _ _ h _ => h, fun a' W K hC hd hf hK => ?_⟩, ⟨fun _ _ _ h _ => h, fun a' W K hC hd hf hK => ?_⟩, ⟨fun _ _ _ h _ => h, fun a' W K hC hd hf hK => ?_⟩, ⟨fun _ _ _ h _ => h, fun a' W K hC hd hf hK => ?_⟩, ⟨fun _ _ _ h hb => by obtain ⟨v, e, hl⟩ := h; exact ⟨v, e, own_keep hl hb⟩, fun a' W K hC hd hf hK => ?_⟩, ⟨fun _ _ _ h hb => by obtain ⟨v, e, hl⟩ := h; exact ⟨v, e, own_keep hl hb⟩, fun a' W K hC hd hf hK => ?_⟩, ⟨fun _ _ _ h hb => own_keep h hb, fun a' W K hC hd hf hK => ?_⟩, ⟨fun _ _ _ h _ => h, fun a' W K hC hd hf hK => ?_⟩, ⟨fun _ _ _ h hb => own_keep h hb, fun a' W K hC hd hf hK => ?_⟩, ⟨fun _ _ _ h _ => h, fun a' W K hC hd hf hK => ?_⟩, trivial⟩
      · refine op_plain rfl ?_
        have f3 : a'.tmps[3]?.getD undef = .pointer (some ⟨w.heap.size, 0, none⟩) := (hf.out 3 (by kernel_rfl)).trans (by simp)
        obtain ⟨_, ⟨u1, u2, u3⟩, ⟨v1, v2, v3⟩⟩ := hC.2.1.all
        go_simp
        exact hK.out _ _ hC (Below.refl _ _) rfl
      · refine op_plain rfl ?_
        have f10 : a'.tmps[10]?.getD undef = .slice (some ⟨bm, om, none⟩) (n + 2) c8 := (hf.out 10 (by kernel_rfl)).trans (by simp)
        go_simp
        exact hK.out _ _ hC (Below.refl _ _) rfl
      · refine op_plain rfl ?_
        have f9 : a'.tmps[9]?.getD undef = .int .i64 (n : Nat) := (hf.out 9 (by kernel_rfl)).trans (by simp)
        go_simp
        exact hK.out _ _ hC (Below.refl _ _) rfl
      · refine op_plain rfl ?_
        have d99 : a'.tmps[99]?.getD undef = .slice (some ⟨bm, om, none⟩) (n + 2) c8 := hd.out 1 99 (by kernel_rfl) rfl
        have d100 : a'.tmps[100]?.getD undef = .int .i64 (n : Nat) := hd.out 2 100 (by kernel_rfl) rfl
        go_simp
        exact hK.out _ _ hC (Below.refl _ _) rfl
      · refine op_plain rfl ?_
        have f5 : a'.tmps[5]?.getD undef = .pointer (some ⟨w.heap.size + 1, 0, none⟩) := (hf.out 5 (by kernel_rfl)).trans (by simp)
        obtain ⟨_, ⟨u1, u2, u3⟩, ⟨v1, v2, v3⟩⟩ := hC.2.1.all
        go_simp
        exact hK.out _ _ hC (Below.refl _ _) rfl
      · refine op_plain rfl ?_
        have d98 : a'.tmps[98]?.getD undef = Bv p := hd.out 0 98 (by kernel_rfl) rfl
        have d101 : a'.tmps[101]?.getD undef = .slice (some ⟨bm, om, none⟩) n c8 := hd.out 3 101 (by kernel_rfl) rfl
        have d102 : a'.tmps[102]?.getD undef = Bv b := hd.out 4 102 (by kernel_rfl) rfl
        go_simp
        refine (GV.out W _ hC.2.2.2).mono ?_
        rintro e W2 ⟨vv, rfl, hbW, hO⟩
        exact hK.out _ _ (KM.step hC hbW) hbW ⟨vv, rfl, own_base hO hC.1.size⟩
      · refine op_plain rfl ?_
        have d103 := hd.out 5 103 (by kernel_rfl) rfl
        go_simp
        exact hK.out _ _ hC (Below.refl _ _) d103
      · refine op_plain rfl ?_
        have d97 := hd.out 6 97 (by kernel_rfl) rfl
        obtain ⟨vv, e97, hL⟩ := d97
        go_simp
        exact hK.out _ _ hC (Below.refl _ _) hL
      · refine op_plain rfl ?_
        have d97 := hd.out 6 97 (by kernel_rfl) rfl
        obtain ⟨vv, e97, hL⟩ := d97
        go_simp
        exact hK.out _ _ hC (Below.refl _ _) rfl
      · refine op_plain rfl ?_
        have d104 := hd.out 7 104 (by kernel_rfl) rfl
        go_simp
        exact hK.out _ _ hC (Below.refl _ _) d104
      · refine op_plain rfl ?_
        have d105 : a'.tmps[105]?.getD undef = .int .i64 E3 := hd.out 8 105 (by kernel_rfl) rfl
        go_simp
        exact hK.out _ _ hC (Below.refl _ _) rfl
    · intro vs wd hC hR
      have q0 : vs 0 = Bv p := hR.out 0 (by decide)
      have q1 : vs 1 = .slice (some ⟨bm, om, none⟩) (n + 2) c8 := hR.out 1 (by decide)
      have q2 : vs 2 = .int .i64 (n : Nat) := hR.out 2 (by decide)
      have q3 : vs 3 = .slice (some ⟨bm, om, none⟩) n c8 := hR.out 3 (by decide)
      have q4 : vs 4 = Bv b := hR.out 4 (by decide)
      generalize hq5 : vs 5 = q5
      generalize hq6 : vs 6 = q6
      generalize hq7 : vs 7 = q7
      have q8 : vs 8 = .int .i64 E3 := hR.out 8 (by decide)
      have Ad := hR.out 9 (by decide)
      generalize hq9 : vs 9 = q9 at *
      change Own wd wc.heap.size q9 G1 at Ad
      have q10 : vs 10 = .int .i64 E3 := hR.out 10 (by decide)
      simp only [fillF, Act.put, List.setIfInBounds_toArray, List.set_cons_zero, List.set_cons_succ, Nat.reduceAdd, q0, q1, q2, q3, q4, hq5, hq6, hq7, q8, hq9, q10]
      clear hR q0 q1 q2 q3 q4 hq5 hq6 hq7 q8 hq9 q10
      have Cd := hC.1
      replace K9 := K9.step Cd
      have Ld := own_subv Ad
      replace A9 := own_keep A9 Cd
      replace Hy := own_keep Hy Cd
      replace Ac := own_keep Ac Cd
      have Nd := Cd.size
      clear hC Kc GV Cd
      generalize q9 = vg at *
      obtain ⟨pr, cr, rfl⟩ := lst_len (own_lst Ac)
      obtain ⟨pg, cg, rfl⟩ := lst_len (own_lst Ad)
      go_wp2_with fail
      go_loopw [20] (fun i wr => ∃ (k : Nat) (xs : List Value), k ≤ X1.length ∧ i = .int .i64 (k : Int) ∧ wr.ownsRow w8.heap.size 26 3 (.slice px X1.length cx) X1.length xs ∧ Below w8.heap.size wd wr ∧ Ab wd w9.heap.size wr) (fun i _ => X1.length - (intOf i).toNat)
      case atStart => exact ⟨0, _, Nat.zero_le _, rfl, A9, Below.refl _ _, Ab.refl _ _⟩
      case round =>
        obtain ⟨k, xs, hk, rfl, hown, hB, hA⟩ := hrel
        by_cases hlt : k < X1.length
        · obtain ⟨g, cap, hgv, hbg, _⟩ := hown.form (by omega)
          cases hgv
          have gt := Lx g rfl
          go_wp2_with fail
          refine (BZ.out _).mono ?_
          rintro e w15 ⟨rfl, hb15⟩
          have own2 := own_keep hown hb15
          have HB2 := hB.trans (hb15.mono (by have := hB.size; omega))
          have AB2 := hA.step hb15
          have xl := own2.1
          obtain ⟨u0, e0⟩ : ∃ u, xs[k * 3]? = some u := ⟨_, List.getElem?_eq_getElem (by omega)⟩
          obtain ⟨u1, e1⟩ : ∃ u, xs[k * 3 + 1]? = some u := ⟨_, List.getElem?_eq_getElem (by omega)⟩
          obtain ⟨u2, e2⟩ : ∃ u, xs[k * 3 + 2]? = some u := ⟨_, List.getElem?_eq_getElem (by omega)⟩
          have t0 := (own2.cellAt (k * 3) (by omega)).trans e0
          have t1 := (own2.cellAt (k * 3 + 1) (by omega)).trans e1
          have t2 := (own2.cellAt (k * 3 + 2) (by omega)).trans e2
          have f0 := own2.frozenAt (k * 3)
          have f1 := own2.frozenAt (k * 3 + 1)
          have f2 := own2.frozenAt (k * 3 + 2)
          clear e0 e1 e2 xl hown hB hA hb15
          go_wp2
          go_roundw
          case rel =>
            exact ⟨k + 1, _, by omega, by go_num, (((own2.stored (k * 3) _).1.stored (k * 3 + 1) _).1.stored (k * 3 + 2) _).1, ((HB2.setCell hbg _).setCell hbg _).setCell hbg _, ((AB2.set gt _).set gt _).set gt _⟩
          case measure => simp [intOf]; omega
        · have Hy := own_ab Hy hA (Nat.le_refl _)
          have Ac := own_ab Ac hA (by omega)
          have Ad := own_ab Ad hA (by omega)
          have Cd := hB
          have Ne := hB.size
          clear hown hB hA A9 Lx
          generalize wr = we at *
          go_wp2_with fail
          go_loopw [21] (fun i wr => ∃ (k : Nat) (xs : List Value), k ≤ R1.length ∧ i = .int .i64 (k : Int) ∧ wr.ownsRow wb.heap.size 26 3 (.slice pr R1.length cr) R1.length xs ∧ Below wb.heap.size we wr ∧ Ab we wc.heap.size wr) (fun i _ => R1.length - (intOf i).toNat)
          case atStart => exact ⟨0, _, Nat.zero_le _, rfl, Ac, Below.refl _ _, Ab.refl _ _⟩
          case round =>
            obtain ⟨k, xs, hk, rfl, hown, hB, hA⟩ := hrel
            by_cases hlt : k < R1.length
            · obtain ⟨g, cap, hgv, hbg, _⟩ := hown.form (by omega)
              cases hgv
              have gt := Lc g rfl
              go_wp2_with fail
              refine (BZ.out _).mono ?_
              rintro e w15 ⟨rfl, hb15⟩
              have own2 := own_keep hown hb15
              have HB2 := hB.trans (hb15.mono (by have := hB.size; omega))
              have AB2 := hA.step hb15
              have xl := own2.1
              obtain ⟨u0, e0⟩ : ∃ u, xs[k * 3]? = some u := ⟨_, List.getElem?_eq_getElem (by omega)⟩
              obtain ⟨u1, e1⟩ : ∃ u, xs[k * 3 + 1]? = some u := ⟨_, List.getElem?_eq_getElem (by omega)⟩
              obtain ⟨u2, e2⟩ : ∃ u, xs[k * 3 + 2]? = some u := ⟨_, List.getElem?_eq_getElem (by omega)⟩
              have t0 := (own2.cellAt (k * 3) (by omega)).trans e0
              have t1 := (own2.cellAt (k * 3 + 1) (by omega)).trans e1
              have t2 := (own2.cellAt (k * 3 + 2) (by omega)).trans e2
              have f0 := own2.frozenAt (k * 3)
              have f1 := own2.frozenAt (k * 3 + 1)
              have f2 := own2.frozenAt (k * 3 + 2)
              clear e0 e1 e2 xl hown hB hA hb15
              go_wp2
              go_roundw
              case rel =>
                exact ⟨k + 1, _, by omega, by go_num, (((own2.stored (k * 3) _).1.stored (k * 3 + 1) _).1.stored (k * 3 + 2) _).1, ((HB2.setCell hbg _).setCell hbg _).setCell hbg _, ((AB2.set gt _).set gt _).set gt _⟩
              case measure => simp [intOf]; omega
            · have Hy := own_below Hy hB Lb
              have Ad := own_ab Ad hA (Nat.le_refl _)
              replace Cd := Cd.trans (hB.mono (by omega))
              have Nf := hB.size
              clear hown hB hA Ac Lc
              generalize wr = wf at *
              go_wp2_with fail
              go_loopw [22] (fun i wr => ∃ (k : Nat) (xs : List Value), k ≤ G1.length ∧ i = .int .i64 (k : Int) ∧ wr.ownsRow wc.heap.size 26 3 (.slice pg G1.length cg) G1.length xs ∧ Below wc.heap.size wf wr ∧ Ab wf wd.heap.size wr) (fun i _ => G1.length - (intOf i).toNat)
              case atStart => exact ⟨0, _, Nat.zero_le _, rfl, Ad, Below.refl _ _, Ab.refl _ _⟩
              case round =>
                obtain ⟨k, xs, hk, rfl, hown, hB, hA⟩ := hrel
                by_cases hlt : k < G1.length
                · obtain ⟨g, cap, hgv, hbg, _⟩ := hown.form (by omega)
                  cases hgv
                  have gt := Ld g rfl
                  go_wp2_with fail
                  refine (BZ.out _).mono ?_
                  rintro e w15 ⟨rfl, hb15⟩
                  have own2 := own_keep hown hb15
                  have HB2 := hB.trans (hb15.mono (by have := hB.size; omega))
                  have AB2 := hA.step hb15
                  have xl := own2.1
                  obtain ⟨u0, e0⟩ : ∃ u, xs[k * 3]? = some u := ⟨_, List.getElem?_eq_getElem (by omega)⟩
                  obtain ⟨u1, e1⟩ : ∃ u, xs[k * 3 + 1]? = some u := ⟨_, List.getElem?_eq_getElem (by omega)⟩
                  obtain ⟨u2, e2⟩ : ∃ u, xs[k * 3 + 2]? = some u := ⟨_, List.getElem?_eq_getElem (by omega)⟩
                  have t0 := (own2.cellAt (k * 3) (by omega)).trans e0
                  have t1 := (own2.cellAt (k * 3 + 1) (by omega)).trans e1
                  have t2 := (own2.cellAt (k * 3 + 2) (by omega)).trans e2
                  have f0 := own2.frozenAt (k * 3)
                  have f1 := own2.frozenAt (k * 3 + 1)
                  have f2 := own2.frozenAt (k * 3 + 2)
                  clear e0 e1 e2 xl hown hB hA hb15
                  go_wp2
                  go_roundw
                  case rel =>
                    exact ⟨k + 1, _, by omega, by go_num, (((own2.stored (k * 3) _).1.stored (k * 3 + 1) _).1.stored (k * 3 + 2) _).1, ((HB2.setCell hbg _).setCell hbg _).setCell hbg _, ((AB2.set gt _).set gt _).set gt _⟩
                  case measure => simp [intOf]; omega
                · have Hy := own_below Hy hB (fun k e => by have := Lb k e; omega)
                  replace Cd := Cd.trans (hB.mono (by omega))
                  have Ng := hB.size
                  clear hown hB hA Ad Ld Lb BZ
                  generalize wr = wg at *
                  replace K9 := K8.step8 K9.1 Cd
                  replace MX := MX.step K9.1
                  replace MY := MY.step K9.1
                  obtain ⟨z, ⟨x1, x2, x3⟩, ⟨y1, y2, y3⟩⟩ := K9.2.1.all
                  have Z0 : w.heap.size < wg.heap.size := by omega
                  have ny : X1.length ≤ 1000000 := by omega
                  go_wp2_with fail
                  refine (TK.out _ _ K9.2.2.1).mono ?_
                  rintro e wh ⟨vz, rfl, hbh, Oz⟩
                  replace K9 := K9.step hbh
                  replace MX := MX.step hbh
                  replace MY := MY.step hbh
                  have Ly := (own_lst Hy).step hbh
                  have Lz := own_lst Oz
                  obtain ⟨pz, cz, rfl⟩ := lst_len Lz
                  have bA := below_alloc wh (.cells #[.int .u64 (hi P1.1 : Nat), .int .u64 (lo P1.1 : Nat), .int .i64 P1.2] 26)
                  replace K9 := K9.step bA
                  replace MX := hide (MX.step bA)
                  replace MY := hide (MY.step bA)
                  replace Ly := hide (Ly.step bA)
                  replace Lz := hide (Lz.step bA)
                  have KF := hide K9.2.2.1
                  have KM9 := hide K9.2.2.2
                  have BW := chain BW8 K9.1
                  clear hbh Oz Hy bA K9 z Z0 x1 x2 x3 y1 y2 y3 TK BW8
                  have I0 : (n : Int) < (n : Int) + 2 := by omega
                  have I1 : (n : Int) + 1 < (n : Int) + 2 := by omega
                  have I4 : IntKind.i64.wrap ((n : Int) + 1) = (n : Int) + 1 := IntWalk.i64_in _ ⟨by omega, by omega⟩
                  have I2 : (0 : Int) ≤ (n : Int) + 1 := by omega
                  have I3 : ((n : Int) + 1).toNat = n + 1 := by omega
                  have EX := fun W => eq_run X X W
                  have EY := fun W => eq_run Y Y W
                  rw [decide_eq_true rfl] at EX EY
                  go_wp2_with fail
                  generalize wh.alloc (.cells #[.int .u64 (hi P1.1 : Nat), .int .u64 (lo P1.1 : Nat), .int .i64 P1.2] 26) = wi at *
                  refine wp_region_quiet (C := Below wi.heap.size wi) (by kernel_rfl) (by kernel_rfl) (show Below wi.heap.size wi { wi with drawn := wi.drawn + 1 } from (Below.refl _ _).drew) (wpQuiet_step (fun K0 hK0 => ?_))
                  go_simp
                  first | (with_reducible refine hK0 _ (wpQuiet_step (fun K1 hK1 => ?_))) | (with_reducible refine ⟨_, fun _ _ => rfl, hK0 _ (wpQuiet_step (fun K1 hK1 => ?_))⟩) | (rw [if_neg (by intro e; cases e)]; with_reducible refine hK0 _ (wpQuiet_step (fun K1 hK1 => ?_)))
                  clear hK0 K0
                  go_simp
                  first | (with_reducible refine hK1 _ (wpQuiet_step (fun K0 hK0 => ?_))) | (with_reducible refine ⟨_, fun _ _ => rfl, hK1 _ (wpQuiet_step (fun K0 hK0 => ?_))⟩) | (rw [if_neg (by intro e; cases e)]; with_reducible refine hK1 _ (wpQuiet_step (fun K0 hK0 => ?_)))
                  clear hK1 K1
                  go_simp
                  first | (with_reducible refine hK0 _ (wpQuiet_step (fun K1 hK1 => ?_))) | (with_reducible refine ⟨_, fun _ _ => rfl, hK0 _ (wpQuiet_step (fun K1 hK1 => ?_))⟩) | (rw [if_neg (by intro e; cases e)]; with_reducible refine hK0 _ (wpQuiet_step (fun K1 hK1 => ?_)))
                  clear hK0 K0
                  go_simp
                  first | (with_reducible refine hK1 _ (wpQuiet_step (fun K0 hK0 => ?_))) | (with_reducible refine ⟨_, fun _ _ => rfl, hK1 _ (wpQuiet_step (fun K0 hK0 => ?_))⟩) | (rw [if_neg (by intro e; cases e)]; with_reducible refine hK1 _ (wpQuiet_step (fun K0 hK0 => ?_)))
                  clear hK1 K1
                  go_simp
                  refine ⟨.bool true, fun W hW => ?_, hK0 _ (wpQuiet_step (fun K1 hK1 => ?_))⟩
                  · exact (SF.out W _ _ (KM9.out.step hW) (KF.out.step hW)).mono fun e w4 ⟨he, hb⟩ => ⟨he, chain hW hb⟩
                  clear hK0 K0
                  go_simp
                  first | (with_reducible refine hK1 _ (wpQuiet_step (fun K0 hK0 => ?_))) | (with_reducible refine ⟨_, fun _ _ => rfl, hK1 _ (wpQuiet_step (fun K0 hK0 => ?_))⟩) | (rw [if_neg (by intro e; cases e)]; with_reducible refine hK1 _ (wpQuiet_step (fun K0 hK0 => ?_)))
                  clear hK1 K1
                  go_simp
                  first | (with_reducible refine hK0 _ (wpQuiet_step (fun K1 hK1 => ?_))) | (with_reducible refine ⟨_, fun _ _ => rfl, hK0 _ (wpQuiet_step (fun K1 hK1 => ?_))⟩) | (rw [if_neg (by intro e; cases e)]; with_reducible refine hK0 _ (wpQuiet_step (fun K1 hK1 => ?_)))
                  clear hK0 K0
                  go_simp
                  first | (with_reducible refine hK1 _ (wpQuiet_step (fun K0 hK0 => ?_))) | (with_reducible refine ⟨_, fun _ _ => rfl, hK1 _ (wpQuiet_step (fun K0 hK0 => ?_))⟩) | (rw [if_neg (by intro e; cases e)]; with_reducible refine hK1 _ (wpQuiet_step (fun K0 hK0 => ?_)))
                  clear hK1 K1
                  go_simp
                  first | (with_reducible refine hK0 _ (wpQuiet_step (fun K1 hK1 => ?_))) | (with_reducible refine ⟨_, fun _ _ => rfl, hK0 _ (wpQuiet_step (fun K1 hK1 => ?_))⟩) | (rw [if_neg (by intro e; cases e)]; with_reducible refine hK0 _ (wpQuiet_step (fun K1 hK1 => ?_)))
                  clear hK0 K0
                  go_simp
                  refine ⟨Bv X, fun W hW => ?_, hK1 _ (wpQuiet_step (fun K0 hK0 => ?_))⟩
                  · (obtain ⟨u0, u1, u2⟩ := MX.out.step hW; simp [go_sem, u0, u1, u2])
                  clear hK1 K1
                  go_simp
                  refine ⟨Bv X, fun W hW => ?_, hK0 _ (wpQuiet_step (fun K1 hK1 => ?_))⟩
                  · exact (BX.out W).mono fun e w4 ⟨he, hb⟩ => ⟨he, chain hW hb⟩
                  clear hK0 K0
                  go_simp
                  first | (with_reducible refine hK1 _ (wpQuiet_step (fun K0 hK0 => ?_))) | (with_reducible refine ⟨_, fun _ _ => rfl, hK1 _ (wpQuiet_step (fun K0 hK0 => ?_))⟩) | (rw [if_neg (by intro e; cases e)]; with_reducible refine hK1 _ (wpQuiet_step (fun K0 hK0 => ?_)))
                  clear hK1 K1
                  go_simp
                  first | (with_reducible refine hK0 _ (wpQuiet_step (fun K1 hK1 => ?_))) | (with_reducible refine ⟨_, fun _ _ => rfl, hK0 _ (wpQuiet_step (fun K1 hK1 => ?_))⟩) | (rw [if_neg (by intro e; cases e)]; with_reducible refine hK0 _ (wpQuiet_step (fun K1 hK1 => ?_)))
                  clear hK0 K0
                  go_simp
                  first | (with_reducible refine hK1 _ (wpQuiet_step (fun K0 hK0 => ?_))) | (with_reducible refine ⟨_, fun _ _ => rfl, hK1 _ (wpQuiet_step (fun K0 hK0 => ?_))⟩) | (rw [if_neg (by intro e; cases e)]; with_reducible refine hK1 _ (wpQuiet_step (fun K0 hK0 => ?_)))
                  clear hK1 K1
                  go_simp
                  first | (with_reducible refine hK0 _ (wpQuiet_step (fun K1 hK1 => ?_))) | (with_reducible refine ⟨_, fun _ _ => rfl, hK0 _ (wpQuiet_step (fun K1 hK1 => ?_))⟩) | (rw [if_neg (by intro e; cases e)]; with_reducible refine hK0 _ (wpQuiet_step (fun K1 hK1 => ?_)))
                  clear hK0 K0
                  go_simp
                  first | (with_reducible refine hK1 _ (wpQuiet_step (fun K0 hK0 => ?_))) | (with_reducible refine ⟨_, fun _ _ => rfl, hK1 _ (wpQuiet_step (fun K0 hK0 => ?_))⟩) | (rw [if_neg (by intro e; cases e)]; with_reducible refine hK1 _ (wpQuiet_step (fun K0 hK0 => ?_)))
                  clear hK1 K1
                  go_simp
                  first | (with_reducible refine hK0 _ (wpQuiet_step (fun K1 hK1 => ?_))) | (with_reducible refine ⟨_, fun _ _ => rfl, hK0 _ (wpQuiet_step (fun K1 hK1 => ?_))⟩) | (rw [if_neg (by intro e; cases e)]; with_reducible refine hK0 _ (wpQuiet_step (fun K1 hK1 => ?_)))
                  clear hK0 K0
                  go_simp
                  first | (with_reducible refine hK1 _ (wpQuiet_step (fun K0 hK0 => ?_))) | (with_reducible refine ⟨_, fun _ _ => rfl, hK1 _ (wpQuiet_step (fun K0 hK0 => ?_))⟩) | (rw [if_neg (by intro e; cases e)]; with_reducible refine hK1 _ (wpQuiet_step (fun K0 hK0 => ?_)))
                  clear hK1 K1
                  go_simp
                  refine ⟨Bv Y, fun W hW => ?_, hK0 _ (wpQuiet_step (fun K1 hK1 => ?_))⟩
                  · (obtain ⟨u0, u1, u2⟩ := MY.out.step hW; simp [go_sem, u0, u1, u2])
                  clear hK0 K0
                  go_simp
                  refine ⟨Bv Y, fun W hW => ?_, hK1 _ (wpQuiet_step (fun K0 hK0 => ?_))⟩
                  · exact (BY.out W).mono fun e w4 ⟨he, hb⟩ => ⟨he, chain hW hb⟩
                  clear hK1 K1
                  go_simp
                  first | (with_reducible refine hK0 _ (wpQuiet_step (fun K1 hK1 => ?_))) | (with_reducible refine ⟨_, fun _ _ => rfl, hK0 _ (wpQuiet_step (fun K1 hK1 => ?_))⟩) | (rw [if_neg (by intro e; cases e)]; with_reducible refine hK0 _ (wpQuiet_step (fun K1 hK1 => ?_)))
                  clear hK0 K0
                  go_simp
                  first | (with_reducible refine hK1 _ (wpQuiet_step (fun K0 hK0 => ?_))) | (with_reducible refine ⟨_, fun _ _ => rfl, hK1 _ (wpQuiet_step (fun K0 hK0 => ?_))⟩) | (rw [if_neg (by intro e; cases e)]; with_reducible refine hK1 _ (wpQuiet_step (fun K0 hK0 => ?_)))
                  clear hK1 K1
                  go_simp
                  first | (with_reducible refine hK0 _ (wpQuiet_step (fun K1 hK1 => ?_))) | (with_reducible refine ⟨_, fun _ _ => rfl, hK0 _ (wpQuiet_step (fun K1 hK1 => ?_))⟩) | (rw [if_neg (by intro e; cases e)]; with_reducible refine hK0 _ (wpQuiet_step (fun K1 hK1 => ?_)))
                  clear hK0 K0
                  go_simp
                  first | (with_reducible refine hK1 _ (wpQuiet_step (fun K0 hK0 => ?_))) | (with_reducible refine ⟨_, fun _ _ => rfl, hK1 _ (wpQuiet_step (fun K0 hK0 => ?_))⟩) | (rw [if_neg (by intro e; cases e)]; with_reducible refine hK1 _ (wpQuiet_step (fun K0 hK0 => ?_)))
                  clear hK1 K1
                  go_simp
                  first | (with_reducible refine hK0 _ (wpQuiet_step (fun K1 hK1 => ?_))) | (with_reducible refine ⟨_, fun _ _ => rfl, hK0 _ (wpQuiet_step (fun K1 hK1 => ?_))⟩) | (rw [if_neg (by intro e; cases e)]; with_reducible refine hK0 _ (wpQuiet_step (fun K1 hK1 => ?_)))
                  clear hK0 K0
                  go_simp
                  refine ⟨.bool true, fun W hW => ?_, hK1 _ (wpQuiet_step (fun K0 hK0 => ?_))⟩
                  · exact (SX.out W _ _ (Ly.out.step hW) (Lz.out.step hW)).mono fun e w4 ⟨he, hb⟩ => ⟨he, chain hW hb⟩
                  clear hK1 K1
                  go_simp
                  first | (with_reducible refine hK0 _ (wpQuiet_step (fun K1 hK1 => ?_))) | (with_reducible refine ⟨_, fun _ _ => rfl, hK0 _ (wpQuiet_step (fun K1 hK1 => ?_))⟩) | (rw [if_neg (by intro e; cases e)]; with_reducible refine hK0 _ (wpQuiet_step (fun K1 hK1 => ?_)))
                  clear hK0 K0
                  go_simp
                  first | (with_reducible refine hK1 _ (wpQuiet_nil ?_)) | (with_reducible refine ⟨_, fun _ _ => rfl, hK1 _ (wpQuiet_nil ?_)⟩) | (rw [if_neg (by intro e; cases e)]; with_reducible refine hK1 _ (wpQuiet_nil ?_))
                  clear hK1 K1
                  intro wk Hk
                  have BE := chain BW Hk
                  go_wp2
                  go_ret
                  exact ⟨rfl, BE⟩
end Go.Proofs.Ytpieddddckbfdaa
