/-
  A change cut off is refused; what is read is what would have been written; whole lists of changes: plain mathematics over bytes. No program is walked here. No condition beyond those in each theorem's own statement.
-/
import Derived.Test.YtgioifdmmneapaaLFm
namespace Go.Proofs.Ytgioifdmmneapaa
open Go.RowKit Go.Joins

theorem enc_len (c : Ch) : (encB c).length = if c.gone = true then 19 else 34 + c.l.cl.size := by
  have lc : c.l.cl.data.toList.length = c.l.cl.size := rfl
  cases hg : c.gone with
  | true => rw [encB_gone hg, if_pos rfl]; simp [beL_length]
  | false => rw [encB_put hg, if_neg (by decide)]; simp [beL_length]; omega
theorem enc_32 {c : Ch} (hg : c.gone = false) : ((encB c).drop 32).take 2 = beL 2 c.l.cl.size := by
  rw [encB_put hg]
  have l16 := beL_length 16 c.l.p
  have l4 := beL_length 4 c.l.ia
  have l8 := beL_length 8 c.l.un.toNat
  have l2 := beL_length 2 c.l.cl.size
  rw [show 32 = 3 + (16 + (1 + (4 + 8))) from rfl, ← List.drop_drop, ← List.drop_drop, ← List.drop_drop, ← List.drop_drop]
  show (List.drop 8 (List.drop 4 (List.drop 1 (List.drop 16 (beL 16 c.l.p ++ _))))).take 2 = _
  rw [drop_app l16]
  show (List.drop 8 (List.drop 4 (beL 4 c.l.ia ++ _))).take 2 = _
  rw [drop_app l4, drop_app l8, take_app l2]
theorem cut_err {s : ByteArray} {a j : Nat} {c : Ch} (ha : a ≤ s.size) (hR : Rst s a = (encB c).take j) (hj : j < (encB c).length) (hc : changeS c = true) : chE s (a : Int) = 3 := by
  have hlen : (Rst s a).length = j := by rw [hR, List.length_take]; omega
  have hel := enc_len c
  by_cases h0 : j = 0
  · have hm : mkE s (a : Int) = 3 := by rw [mkE_eq ha, if_neg (by omega)]
    have hg : getV 1 s (a : Int) = 0 := by
      apply getV_no
      have := cut_rst ha 0 1
      rw [Nat.zero_add, Nat.add_zero] at this
      rw [show ((1 : Nat) : Int) = 1 from rfl] at this
      rw [show ((1 : Nat) : Int) = 1 from rfl, this]
      exact decide_eq_false (by omega)
    unfold chE
    rw [if_neg (by rw [hg]; decide), ptE_eq ha (Or.inr hm), if_neg (by rw [hm]; intro h; exact absurd h.1 (by decide))]
  · have g : getV 1 s (a : Int) = beV ((encB c).take 1) := by
      rw [get0 ha (by omega), hR, List.take_take, Nat.min_eq_left (by omega)]
    cases hg : c.gone with
    | true =>
      rw [if_pos hg] at hel
      have g0 : getV 1 s (a : Int) = 2 := by rw [g, encB_gone hg]; exact beV_one 2
      have hm : mkE s (a : Int) = 0 := by rw [mkE_eq ha, if_pos (by omega), if_pos (Or.inr g0)]
      unfold chE
      rw [if_pos g0, hdE_eq ha (Or.inl hm), if_neg (by omega)]
    | false =>
      rw [if_neg (by rw [hg]; decide)] at hel
      have g0 : getV 1 s (a : Int) = 1 := by rw [g, encB_put hg]; exact beV_one 1
      have hm : mkE s (a : Int) = 0 := by rw [mkE_eq ha, if_pos (by omega), if_pos (Or.inl g0)]
      unfold chE
      rw [if_neg (by rw [g0]; decide), ptE_eq ha (Or.inl hm), if_neg ?_]
      rintro ⟨_, h34, hl⟩
      have hcl : c.l.cl.size ≤ 130 := by
        have hl : leaseS c.l = true := by unfold changeS at hc; rw [if_neg (by rw [hg]; decide)] at hc; exact hc
        exact (lease_range hl).2.2.2
      have : getV 2 s ((a + 32 : Nat) : Int) = c.l.cl.size := by
        rw [get_rst ha (by omega), hR, List.drop_take, List.take_take, Nat.min_eq_left (by omega), enc_32 hg, beV_beL (by show _ < 65536; omega)]
      omega
theorem split_at (l : List UInt8) (n : Nat) : l = l.take n ++ l.drop n := (List.take_append_drop n l).symm
theorem three_of {l : List UInt8} (h : 3 ≤ l.length) : ∃ b0 b1 b2 t, l = b0 :: b1 :: b2 :: t := by
  match l, h with
  | b0 :: b1 :: b2 :: t, _ => exact ⟨b0, b1, b2, t, rfl⟩
theorem one_of {l : List UInt8} (h : 1 ≤ l.length) : ∃ b t, l = b :: t := by
  match l, h with
  | b :: t, _ => exact ⟨b, t, rfl⟩
theorem u8_of {b : UInt8} {n : Nat} (h : b.toNat = n) : b = UInt8.ofNat n := by rw [← h, UInt8.ofNat_toNat]
theorem toI_range {n : Nat} (hn : n < 18446744073709551616) (h : 0 ≤ toI n) : (toI n).toNat = n := by
  unfold toI at *
  rw [IntKind.wrap_i64] at *
  omega
theorem mkE_zero {s : ByteArray} {a : Nat} (ha : a ≤ s.size) (h : mkE s (a : Int) = 0) : 1 ≤ (Rst s a).length ∧ (getV 1 s (a : Int) = 1 ∨ getV 1 s (a : Int) = 2) := by
  rw [mkE_eq ha] at h
  split at h
  · rename_i h1
    split at h
    · rename_i h2; exact ⟨h1, h2⟩
    · cases h
  · cases h
theorem inv_at {s : ByteArray} {a : Nat} (ha : a ≤ s.size) (h : chE s (a : Int) = 0) (hc : changeS (chC s (a : Int)) = true) :
    ∃ a2 : Nat, chN s (a : Int) = (a2 : Int) ∧ a2 ≤ s.size ∧ Rst s a = encB (chC s (a : Int)) ++ Rst s a2 := by
  by_cases hm : getV 1 s (a : Int) = 2
  · have h1 : hdE s (a : Int) = 0 := by unfold chE at h; rwa [if_pos hm] at h
    have h2 : mkE s (a : Int) = 0 := by
      unfold hdE at h1
      rw [errS_zero (by decide), errS_zero (by decide), errS_zero (by decide)] at h1
      exact h1.1.1.1
    rw [hdE_eq ha (Or.inl h2)] at h1
    have hlen : 19 ≤ (Rst s a).length := by
      rcases Nat.lt_or_ge (Rst s a).length 19 with hh | hh
      · rw [if_neg (by omega)] at h1; cases h1
      · exact hh
    have hl2 := rst_len s a
    refine ⟨a + 19, by unfold chN; rw [if_pos hm, p19], by omega, ?_⟩
    obtain ⟨b0, b1, b2, t, hR⟩ := three_of (l := Rst s a) (by omega)
    have ht : 16 ≤ t.length := by rw [hR] at hlen; simp at hlen; omega
    have g0 : b0.toNat = 2 := by rw [get0 ha (by omega), hR] at hm; exact (beV_one b0).symm.trans hm
    have g1 : getV 1 s ((a + 1 : Nat) : Int) = b1.toNat := by rw [get_rst ha (by omega), hR]; exact beV_one _
    have g2 : getV 1 s ((a + 2 : Nat) : Int) = b2.toNat := by rw [get_rst ha (by omega), hR]; exact beV_one _
    have g3 : getA s ((a + 3 : Nat) : Int) = beV (t.take 16) := by rw [getA_get, get_rst ha (by omega), hR]; rfl
    rw [← rst_rst, hR]
    unfold chC hdL
    rw [if_pos hm, p3, p2, p1, g1, g2, g3, encB_gone rfl]
    simp only [Int.toNat_natCast, UInt8.ofNat_toNat]
    rw [beL_beV 16 _ (by rw [List.length_take]; omega), u8_of g0]
    show _ = 2 :: b1 :: b2 :: (t.take 16 ++ t.drop 16)
    rw [List.take_append_drop]
    rfl
  · have h1 : ptE s (a : Int) = 0 := by unfold chE at h; rwa [if_neg hm] at h
    have h2 : mkE s (a : Int) = 0 := by
      unfold ptE hdE at h1
      rw [errS_zero (by decide), errS_zero (by decide), errS_zero (by decide), errS_zero (by decide), errS_zero (by decide), errS_zero (by decide), errS_zero (by decide)] at h1
      exact h1.1.1.1.1.1.1.1
    rw [ptE_eq ha (Or.inl h2)] at h1
    have hlen : 34 ≤ (Rst s a).length ∧ 34 + getV 2 s ((a + 32 : Nat) : Int) ≤ (Rst s a).length := by
      by_cases hh : 34 ≤ (Rst s a).length ∧ 34 + getV 2 s ((a + 32 : Nat) : Int) ≤ (Rst s a).length
      · exact hh
      · rw [if_neg (fun e => hh e.2)] at h1; cases h1
    obtain ⟨hl34, hll⟩ := hlen
    have hl2 := rst_len s a
    have hm1 : getV 1 s (a : Int) = 1 := (mkE_zero ha h2).2.resolve_right hm
    have ht : takeO s ((a + 32 : Nat) : Int) = true := by rw [take_rst ha]; exact decide_eq_true ⟨hl34, hll⟩
    generalize hn : getV 2 s ((a + 32 : Nat) : Int) = n at *
    refine ⟨a + 34 + n, ?_, by omega, ?_⟩
    · unfold chN
      rw [if_neg hm, p32]
      unfold takeE
      rw [if_pos ht, hn]; omega
    obtain ⟨b0, b1, b2, t, hR⟩ := three_of (l := Rst s a) (by omega)
    have g0 : b0.toNat = 1 := by rw [get0 ha (by omega), hR] at hm1; exact (beV_one b0).symm.trans hm1
    have g1 : getV 1 s ((a + 1 : Nat) : Int) = b1.toNat := by rw [get_rst ha (by omega), hR]; exact beV_one _
    have g2 : getV 1 s ((a + 2 : Nat) : Int) = b2.toNat := by rw [get_rst ha (by omega), hR]; exact beV_one _
    have S3 : (Rst s a).drop 3 = t := by rw [hR]; rfl
    have g3 : getA s ((a + 3 : Nat) : Int) = beV (t.take 16) := by rw [getA_get, get_rst ha (by omega), S3]
    obtain ⟨b19, t20, hR19⟩ := one_of (l := (Rst s a).drop 19) (by rw [List.length_drop]; omega)
    have S20 : (Rst s a).drop 20 = t20 := by rw [show 20 = 19 + 1 from rfl, ← List.drop_drop, hR19]; rfl
    have g19 : getV 1 s ((a + 19 : Nat) : Int) = b19.toNat := by rw [get_rst ha (by omega), hR19]; exact beV_one _
    have g20 : getV 4 s ((a + 20 : Nat) : Int) = beV (t20.take 4) := by rw [get_rst ha (by omega), S20]
    have g24 : getV 8 s ((a + 24 : Nat) : Int) = beV (((Rst s a).drop 24).take 8) := get_rst ha (by omega)
    have g32 : n = beV (((Rst s a).drop 32).take 2) := by rw [← hn]; exact get_rst ha (by omega)
    have gc : (takeV s ((a + 32 : Nat) : Int)).data.toList = ((Rst s a).drop 34).take n := by
      unfold takeV
      rw [if_pos ht, hn, p34]
      exact cutV_rst ha (by omega)
    have gs : (takeV s ((a + 32 : Nat) : Int)).size = n := by
      have e : (takeV s ((a + 32 : Nat) : Int)).data.toList.length = n := by rw [gc, List.length_take, List.length_drop]; omega
      exact e
    have hu : 0 ≤ toI (getV 8 s ((a + 24 : Nat) : Int)) := by
      unfold chC at hc
      rw [if_neg hm] at hc
      have hl : leaseS (ptL s (a : Int)) = true := by unfold changeS at hc; exact hc
      have := (lease_range hl).2.1.1
      unfold ptL at this
      rw [p24] at this
      exact this
    have hu2 := toI_range (n := getV 8 s ((a + 24 : Nat) : Int)) (getV_lt 8 s _) hu
    -- the whole rest, part by part
    have L1 : t = t.take 16 ++ (Rst s a).drop 19 := by rw [show 19 = 3 + 16 from rfl, ← List.drop_drop, S3, List.take_append_drop]
    have L2 : t20 = t20.take 4 ++ (Rst s a).drop 24 := by rw [show 24 = 20 + 4 from rfl, ← List.drop_drop, S20, List.take_append_drop]
    have L3 : (Rst s a).drop 24 = ((Rst s a).drop 24).take 8 ++ (Rst s a).drop 32 := by rw [show 32 = 24 + 8 from rfl, ← List.drop_drop, List.take_append_drop]
    have L4 : (Rst s a).drop 32 = ((Rst s a).drop 32).take 2 ++ (Rst s a).drop 34 := by rw [show 34 = 32 + 2 from rfl, ← List.drop_drop, List.take_append_drop]
    have L5 : (Rst s a).drop 34 = ((Rst s a).drop 34).take n ++ Rst s (a + 34 + n) := by rw [show a + 34 + n = a + (34 + n) by omega, ← rst_rst, ← List.drop_drop, List.take_append_drop]
    unfold chC ptL
    rw [if_neg hm, p32, p24, p20, p19, p3, p2, p1, encB_put rfl]
    simp only [Int.toNat_natCast, hu2]
    rw [g1, g2, g3, g19, g20, g24, gs, gc]
    simp only [UInt8.ofNat_toNat]
    have t16 : (t.take 16).length = 16 := by
      have : t.length + 3 = (Rst s a).length := by rw [hR]; simp
      rw [List.length_take]; omega
    have t4 : (t20.take 4).length = 4 := by rw [← S20, List.length_take, List.length_drop]; omega
    have t8 : (((Rst s a).drop 24).take 8).length = 8 := by rw [List.length_take, List.length_drop]; omega
    have t2 : (((Rst s a).drop 32).take 2).length = 2 := by rw [List.length_take, List.length_drop]; omega
    have e2 : beL 2 n = ((Rst s a).drop 32).take 2 := by rw [g32, beL_beV 2 _ t2]
    rw [beL_beV 16 _ t16, beL_beV 4 _ t4, beL_beV 8 _ t8, e2]
    have e0 : b0 = 1 := u8_of g0
    have W : Rst s a = 1 :: b1 :: b2 :: (t.take 16 ++ (b19 :: (t20.take 4 ++ (((Rst s a).drop 24).take 8 ++ (((Rst s a).drop 32).take 2 ++ (((Rst s a).drop 34).take n ++ Rst s (a + 34 + n))))))) := by
      rw [← L5, ← L4, ← L3, ← L2, ← hR19, ← L1, ← e0]
      exact hR
    refine W.trans ?_
    simp only [List.cons_append, List.append_assoc]

/-! ### lists -/
theorem decN_enc {s : ByteArray} {post : List UInt8} : ∀ (cs l : List Ch) (a : Nat), Rst s a = (cs.map encB).flatten ++ post → (∀ c ∈ cs, changeS c = true) → okL cs →
    decN s cs.length l (a : Int) 0 = (l ++ cs, ((a + (cs.map encB).flatten.length : Nat) : Int), 0)
  | [], l, a, _, _, _ => by simp [decN]
  | c :: cs, l, a, hR, hv, ok => by
    have hR2 : Rst s a = encB c ++ ((cs.map encB).flatten ++ post) := by rw [hR, List.map_cons, List.flatten_cons, List.append_assoc]
    obtain ⟨e1, e2, e3⟩ := enc_at hR2 (hv c List.mem_cons_self) (ok c List.mem_cons_self)
    have hR3 : Rst s (a + (encB c).length) = (cs.map encB).flatten ++ post := by rw [← rst_rst, hR2, drop_app rfl]
    rw [List.length_cons, decN_go, e1, e2, e3, decN_enc cs _ _ hR3 (fun x hx => hv x (List.mem_cons_of_mem _ hx)) (fun x hx => ok x (List.mem_cons_of_mem _ hx))]
    rw [List.map_cons, List.flatten_cons, List.length_append, List.append_assoc, Nat.add_assoc]; rfl
theorem decN_cut {s : ByteArray} : ∀ (cs l : List Ch) (a j : Nat), a ≤ s.size → Rst s a = ((cs.map encB).flatten).take j → j < (cs.map encB).flatten.length → (∀ c ∈ cs, changeS c = true) → okL cs →
    (decN s cs.length l (a : Int) 0).2.2 = 3
  | [], l, a, j, _, _, hj, _, _ => by simp at hj
  | c :: cs, l, a, j, ha, hR, hj, hv, ok => by
    rw [List.map_cons, List.flatten_cons] at hR hj
    rw [List.length_append] at hj
    by_cases h : j < (encB c).length
    · have hR2 : Rst s a = (encB c).take j := by rw [hR, List.take_append_of_le_length (by omega)]
      have e1 := cut_err ha hR2 h (hv c List.mem_cons_self)
      rw [List.length_cons, decN_go, e1, decN_stop (by decide)]
    · have hR2 : Rst s a = encB c ++ ((cs.map encB).flatten).take (j - (encB c).length) := by rw [hR, List.take_append, List.take_of_length_le (by omega)]
      obtain ⟨e1, e2, e3⟩ := enc_at hR2 (hv c List.mem_cons_self) (ok c List.mem_cons_self)
      have hR3 : Rst s (a + (encB c).length) = ((cs.map encB).flatten).take (j - (encB c).length) := by rw [← rst_rst, hR2, drop_app rfl]
      have hl := rst_len s a
      have ha2 : a + (encB c).length ≤ s.size := by
        rw [hR2, List.length_append] at hl
        have := encB_len (hv c List.mem_cons_self)
        omega
      rw [List.length_cons, decN_go, e1, e2, e3]
      exact decN_cut cs _ _ _ ha2 hR3 (by omega) (fun x hx => hv x (List.mem_cons_of_mem _ hx)) (fun x hx => ok x (List.mem_cons_of_mem _ hx))
theorem decN_pre {s : ByteArray} : ∀ (k : Nat) (l : List Ch) (a e : Int), ∃ cs, (decN s k l a e).1 = l ++ cs
  | 0, l, a, e => ⟨[], by simp [decN]⟩
  | k + 1, l, a, e => by
    unfold decN
    split
    · obtain ⟨cs, h⟩ := decN_pre (s := s) k (l ++ [chC s a]) (chN s a) (chE s a)
      exact ⟨chC s a :: cs, by rw [h, List.append_assoc]; rfl⟩
    · exact ⟨[], by simp⟩
theorem decN_inv {s : ByteArray} : ∀ (k : Nat) (l : List Ch) (a : Nat), a ≤ s.size → (decN s k l (a : Int) 0).2.2 = 0 → wrongL (decN s k l (a : Int) 0).1 = false →
    ∃ (cs : List Ch) (a2 : Nat), decN s k l (a : Int) 0 = (l ++ cs, (a2 : Int), 0) ∧ cs.length = k ∧ a2 ≤ s.size ∧ Rst s a = (cs.map encB).flatten ++ Rst s a2
  | 0, l, a, ha, _, _ => ⟨[], a, by simp [decN], rfl, ha, by simp⟩
  | k + 1, l, a, ha, h0, hw => by
    rw [decN_go] at h0 hw ⊢
    by_cases he : chE s (a : Int) = 0
    · rw [he] at h0 hw ⊢
      obtain ⟨cs, hcs⟩ := decN_pre (s := s) k (l ++ [chC s (a : Int)]) (chN s (a : Int)) 0
      have hc : changeS (chC s (a : Int)) = true := wrong_iff.1 hw _ (by rw [hcs]; simp)
      obtain ⟨a2, h1, h2, h3⟩ := inv_at ha he hc
      rw [h1] at h0 hw ⊢
      obtain ⟨cs2, a3, g1, g2, g3, g4⟩ := decN_inv k (l ++ [chC s (a : Int)]) a2 h2 h0 hw
      refine ⟨chC s (a : Int) :: cs2, a3, ?_, by simp [g2], g3, ?_⟩
      · rw [g1, List.append_assoc]; rfl
      · rw [h3, g4, List.map_cons, List.flatten_cons, List.append_assoc]
    · rw [decN_stop he] at h0
      exact absurd h0 he

/-! ### whole rows of bytes -/
theorem rst_zero (s : ByteArray) : Rst s 0 = s.data.toList := rfl
theorem num_at {s : ByteArray} (h : 2 ≤ s.size) : getV 2 s 0 = beV (s.data.toList.take 2) ∧ cutO s 0 2 = true := by
  have hl := rst_len s 0
  have h1 := get0 (s := s) (a := 0) (n := 2) (by omega) (by omega)
  have h2 := cut_rst (s := s) (a := 0) (by omega) 0 2
  refine ⟨h1, ?_⟩
  exact h2.trans (decide_eq_true (by omega))
theorem num_short {s : ByteArray} (h : s.size < 2) : getV 2 s 0 = 0 ∧ cutO s 0 2 = false := by
  have hl := rst_len s 0
  have h2 := cut_rst (s := s) (a := 0) (by omega) 0 2
  have h3 : cutO s 0 2 = false := h2.trans (decide_eq_false (by omega))
  exact ⟨getV_no (S := 2) h3, h3⟩
theorem dec_all {s : ByteArray} {l : List Ch} {post : List UInt8} (hs : s.data.toList = encL l ++ post) (hl : l.length ≤ 2048) (hv : ∀ c ∈ l, changeS c = true) (ok : okL l) :
    getV 2 s 0 = l.length ∧ decT s = (l, (((encL l).length : Nat) : Int), 0) := by
  have h2 := beL_length 2 l.length
  have hel : (encL l).length = 2 + (l.map encB).flatten.length := by unfold encL; rw [List.length_append, h2]
  have hsz : s.size = (encL l).length + post.length := by
    have e : s.data.toList.length = s.size := rfl
    rw [← e, hs, List.length_append]
  obtain ⟨g, c⟩ := num_at (s := s) (by omega)
  have e2 : s.data.toList = beL 2 l.length ++ ((l.map encB).flatten ++ post) := by rw [hs]; unfold encL; rw [List.append_assoc]
  rw [e2, take_app h2, beV_beL (by show _ < 65536; omega)] at g
  refine ⟨g, ?_⟩
  have hR : Rst s 2 = (l.map encB).flatten ++ post := by unfold Rst; rw [e2, drop_app h2]
  unfold decT
  rw [g, c]
  show decN s l.length [] ((2 : Nat) : Int) 0 = _
  rw [decN_enc l [] 2 hR hv ok, hel]; rfl
theorem dec_back {s : ByteArray} {l : List Ch} (hs : s.data.toList = encL l) (hl : l.length ≤ 2048) (hv : ∀ c ∈ l, changeS c = true) (ok : okL l) : decE s = 0 ∧ decL s = l := by
  obtain ⟨h1, h2⟩ := dec_all (s := s) (post := []) (by rw [hs, List.append_nil]) hl hv ok
  have hsz : s.size = (encL l).length := by
    have e : s.data.toList.length = s.size := rfl
    rw [← e, hs]
  have hf : finE s (decT s) = 0 := by
    unfold finE
    rw [h2, hsz]
    simp only
    rw [decide_eq_false (by omega), wrong_iff.2 hv]; rfl
  unfold decE decL
  rw [h1, if_neg (by omega), if_neg (by omega), hf, if_pos rfl, h2]
  exact ⟨rfl, rfl⟩
theorem dec_tail {s : ByteArray} {l : List Ch} {x : UInt8} (hs : s.data.toList = encL l ++ [x]) (hl : l.length ≤ 2048) (hv : ∀ c ∈ l, changeS c = true) (ok : okL l) : decE s = 5 := by
  obtain ⟨h1, h2⟩ := dec_all hs hl hv ok
  have hsz : s.size = (encL l).length + 1 := by
    have e : s.data.toList.length = s.size := rfl
    rw [← e, hs, List.length_append]; rfl
  unfold decE finE
  rw [h1, if_neg (by omega), h2, hsz]
  simp only
  rw [decide_eq_true (by omega), wrong_iff.2 hv]; rfl
theorem dec_short {s : ByteArray} {l : List Ch} {k : Nat} (hs : s.data.toList = (encL l).take k) (hk : k < (encL l).length) (hl : l.length ≤ 2048) (hv : ∀ c ∈ l, changeS c = true) (ok : okL l) : decE s = 3 := by
  have h2 := beL_length 2 l.length
  have hel : (encL l).length = 2 + (l.map encB).flatten.length := by unfold encL; rw [List.length_append, h2]
  have hsz : s.size = k := by
    have e : s.data.toList.length = s.size := rfl
    rw [← e, hs, List.length_take]; omega
  have e3 : ∀ (b c : Bool) , errS (errS 3 b 5) c 80 = 3 := by intro b c; cases b <;> cases c <;> rfl
  by_cases h : k < 2
  · obtain ⟨g, c⟩ := num_short (s := s) (by omega)
    unfold decE finE decT
    rw [g, c, if_neg (by omega), decN_stop (by decide)]
    exact e3 _ _
  · obtain ⟨g, c⟩ := num_at (s := s) (by omega)
    have et : s.data.toList.take 2 = beL 2 l.length := by
      rw [hs, List.take_take, Nat.min_eq_left (by omega)]
      unfold encL
      rw [take_app h2]
    rw [et, beV_beL (by show _ < 65536; omega)] at g
    have hR : Rst s 2 = ((l.map encB).flatten).take (k - 2) := by
      unfold Rst
      rw [hs, List.drop_take]
      unfold encL
      rw [drop_app h2]
    have hd := decN_cut (s := s) l [] 2 (k - 2) (by omega) hR (by omega) hv ok
    unfold decE finE decT
    rw [g, c, if_neg (by omega)]
    have hd2 : (decN s l.length [] 2 (errS 0 true 3)).2.2 = 3 := hd
    rw [hd2]
    exact e3 _ _
theorem dec_form {s : ByteArray} (h : decE s = 0) : (decL s).length ≤ 2048 ∧ wrongL (decL s) = false ∧ s.data.toList = encL (decL s) := by
  unfold decE at h
  by_cases hn : 2048 < getV 2 s 0
  · rw [if_pos hn] at h; cases h
  · rw [if_neg hn] at h
    have hL : decL s = (decT s).1 := by unfold decL; rw [if_neg hn, if_pos h]
    unfold finE at h
    rw [errS_zero (by decide), errS_zero (by decide)] at h
    obtain ⟨⟨h1, h2⟩, h3⟩ := h
    have hw : wrongL (decT s).1 = false := by simpa using h3
    by_cases hs2 : s.size < 2
    · obtain ⟨_, c⟩ := num_short hs2
      unfold decT at h1
      rw [c, decN_stop (by decide)] at h1
      exact absurd h1 (by decide)
    · obtain ⟨g, c⟩ := num_at (s := s) (by omega)
      have eT : decT s = decN s (getV 2 s 0) [] ((2 : Nat) : Int) 0 := by unfold decT; rw [c]; rfl
      rw [eT] at h1 hw
      obtain ⟨cs, a2, e1, e2, e3, e4⟩ := decN_inv (s := s) (getV 2 s 0) [] 2 (by omega) h1 hw
      rw [hL, eT, e1]
      rw [e1] at hw
      rw [eT, e1] at h2
      simp only [List.nil_append] at hw h2 ⊢
      have ha2 : a2 = s.size := by
        have : ¬ ((a2 : Int) < (s.size : Int)) := by simpa using h2
        omega
      have hz : Rst s a2 = [] := List.eq_nil_of_length_eq_zero (by rw [rst_len]; omega)
      refine ⟨by omega, hw, ?_⟩
      rw [hz, List.append_nil] at e4
      have t2 : (s.data.toList.take 2).length = 2 := by
        have e : s.data.toList.length = s.size := rfl
        rw [List.length_take]; omega
      unfold encL
      rw [e2, g, beL_beV 2 _ t2, ← e4]
      exact (List.take_append_drop 2 _).symm
theorem decL_ok (s : ByteArray) : okL (decL s) := by
  have H : ∀ (k : Nat) (l : List Ch) (a e : Int), okL l → okL (decN s k l a e).1 := by
    intro k
    induction k with
    | zero => intro l a e h; exact h
    | succ k ih =>
      intro l a e h
      unfold decN
      split
      · refine ih _ _ _ (fun x hx => ?_)
        rcases List.mem_append.1 hx with hx | hx
        · exact h x hx
        · rw [List.mem_singleton.1 hx]; exact chC_ok s a
      · exact h
  have z : okL [] := fun x hx => by cases hx
  unfold decL
  split
  · exact z
  · split
    · exact H _ _ _ _ z
    · exact z
end Go.Proofs.Ytgioifdmmneapaa
