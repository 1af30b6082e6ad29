/-
  A change's bytes are read as the change, cut off they are refused, and what is read is what would have been written: plain mathematics over bytes. No program is walked here. No condition beyond those in each theorem's own statement.
-/
import Derived.Test.YtgioifdmmneapaaLD
namespace Go.Proofs.Ytgioifdmmneapaa
open Go.RowKit Go.Joins

theorem beF_acc : ∀ (l : List UInt8) (n : Nat), beF n l = n * 256 ^ l.length + beF 0 l
  | [], n => by simp [beF]
  | c :: l, n => by
    rw [beF, beF_acc l, beF, beF_acc l (0 * 256 + c.toNat), List.length_cons, Nat.pow_succ, Nat.add_mul, Nat.zero_mul, Nat.zero_add, Nat.mul_assoc, Nat.mul_comm 256 (256 ^ l.length), Nat.add_assoc]
theorem beV_cons (c : UInt8) (l : List UInt8) : beV (c :: l) = c.toNat * 256 ^ l.length + beV l := by
  unfold beV
  rw [beF, beF_acc, Nat.zero_mul, Nat.zero_add]
theorem beL_beV : ∀ (k : Nat) (l : List UInt8), l.length = k → beL k (beV l) = l
  | 0, [], _ => rfl
  | k + 1, c :: l, h => by
    have hl : l.length = k := by simpa using h
    have h1 := beV_lt l
    rw [hl] at h1
    have hp := pow256 k
    rw [beV_cons, hl, beL]
    have e1 : (c.toNat * 256 ^ k + beV l) / 256 ^ k = c.toNat := by
      rw [Nat.mul_comm, Nat.mul_add_div hp, Nat.div_eq_of_lt h1, Nat.add_zero]
    have e2 : beL k (c.toNat * 256 ^ k + beV l) = beL k (beV l) := by
      rw [← beL_mod k (c.toNat * 256 ^ k + beV l), Nat.mul_comm, Nat.mul_add_mod, Nat.mod_eq_of_lt h1]
    rw [e1, e2, beL_beV k l hl, Nat.mod_eq_of_lt c.toNat_lt, UInt8.ofNat_toNat]
theorem take_app {l r : List UInt8} {n : Nat} (h : l.length = n) : (l ++ r).take n = l := by rw [← h]; exact List.take_left
theorem drop_app {l r : List UInt8} {n : Nat} (h : l.length = n) : (l ++ r).drop n = r := by rw [← h]; exact List.drop_left
theorem beV_one (b : UInt8) : beV [b] = b.toNat := by unfold beV; rw [beF, beF]; omega
theorem byte_of_nat {n : Nat} (h : n < 256) : (UInt8.ofNat n).toNat = n := by rw [UInt8.toNat_ofNat']; omega

/-- what is left from a place on -/
def Rst (s : ByteArray) (a : Nat) : List UInt8 := s.data.toList.drop a
theorem rst_len (s : ByteArray) (a : Nat) : (Rst s a).length = s.size - a := by
  unfold Rst
  rw [List.length_drop]; rfl
theorem rst_rst (s : ByteArray) (a i : Nat) : (Rst s a).drop i = Rst s (a + i) := by unfold Rst; rw [List.drop_drop]
theorem cut_rst {s : ByteArray} {a : Nat} (ha : a ≤ s.size) (i n : Nat) : cutO s ((a + i : Nat) : Int) (n : Int) = decide (i + n ≤ (Rst s a).length) := by
  rw [rst_len]
  unfold cutO
  exact decide_eq_decide.2 (by omega)
theorem get_rst {s : ByteArray} {a i n : Nat} (ha : a ≤ s.size) (h : i + n ≤ (Rst s a).length) : getV n s ((a + i : Nat) : Int) = beV (((Rst s a).drop i).take n) := by
  rw [rst_len] at h
  unfold getV
  have c : cutO s ((a + i : Nat) : Int) (n : Int) = true := by unfold cutO; exact decide_eq_true (by omega)
  rw [cut_yes c, sub_list, rst_rst]
  rfl
theorem cutV_rst {s : ByteArray} {a i n : Nat} (ha : a ≤ s.size) (h : i + n ≤ (Rst s a).length) : (cutV s ((a + i : Nat) : Int) (n : Int)).data.toList = ((Rst s a).drop i).take n := by
  rw [rst_len] at h
  have c : cutO s ((a + i : Nat) : Int) (n : Int) = true := by unfold cutO; exact decide_eq_true (by omega)
  rw [cut_yes c, sub_list, rst_rst]
  rfl
theorem getA_get (s : ByteArray) (a : Int) : getA s a = getV 16 s a := rfl
theorem nat_at (a : Nat) (k : Nat) : (a : Int) + (k : Int) = ((a + k : Nat) : Int) := by omega

/-! ### the places as numbers from 0 on -/
theorem p1 (a : Nat) : (a : Int) + 1 = ((a + 1 : Nat) : Int) := rfl
theorem p2 (a : Nat) : (a : Int) + 1 + 1 = ((a + 2 : Nat) : Int) := rfl
theorem p3 (a : Nat) : (a : Int) + 1 + 1 + 1 = ((a + 3 : Nat) : Int) := rfl
theorem p19 (a : Nat) : (a : Int) + 1 + 1 + 1 + 16 = ((a + 19 : Nat) : Int) := rfl
theorem p20 (a : Nat) : (a : Int) + 1 + 1 + 1 + 16 + 1 = ((a + 20 : Nat) : Int) := rfl
theorem p24 (a : Nat) : (a : Int) + 1 + 1 + 1 + 16 + 1 + 4 = ((a + 24 : Nat) : Int) := rfl
theorem p32 (a : Nat) : (a : Int) + 1 + 1 + 1 + 16 + 1 + 4 + 8 = ((a + 32 : Nat) : Int) := rfl
theorem p34 (a : Nat) : (((a + 32 : Nat) : Int)) + 2 = ((a + 34 : Nat) : Int) := rfl
def c3 (a b c : Bool) : Bool := a && (b && c)
theorem errS_chain3 {e : Int} {c1 c2 c3 : Bool} (he : e = 0 ∨ e = 3) : errS (errS (errS e c1 3) c2 3) c3 3 = if e = 0 ∧ c1 = true ∧ c2 = true ∧ c3 = true then 0 else 3 := by
  rcases he with rfl | rfl <;> cases c1 <;> cases c2 <;> cases c3 <;> rfl
theorem errS_chain4 {e : Int} {c1 c2 c3 c4 : Bool} (he : e = 0 ∨ e = 3) : errS (errS (errS (errS e c1 3) c2 3) c3 3) c4 3 = if e = 0 ∧ c1 = true ∧ c2 = true ∧ c3 = true ∧ c4 = true then 0 else 3 := by
  rcases he with rfl | rfl <;> cases c1 <;> cases c2 <;> cases c3 <;> cases c4 <;> rfl
theorem hdE_eq {s : ByteArray} {a : Nat} (ha : a ≤ s.size) (hm : mkE s (a : Int) = 0 ∨ mkE s (a : Int) = 3) : hdE s (a : Int) = if mkE s (a : Int) = 0 ∧ 19 ≤ (Rst s a).length then 0 else 3 := by
  unfold hdE
  rw [p3, p2, p1, errS_chain3 hm, show (1 : Int) = ((1 : Nat) : Int) from rfl, show (16 : Int) = ((16 : Nat) : Int) from rfl, cut_rst ha, cut_rst ha, cut_rst ha]
  simp only [decide_eq_true_eq]
  by_cases h : mkE s (a : Int) = 0 ∧ 19 ≤ (Rst s a).length
  · rw [if_pos h, if_pos ⟨h.1, by omega⟩]
  · rw [if_neg h, if_neg (by omega)]
theorem take_rst {s : ByteArray} {a : Nat} (ha : a ≤ s.size) : takeO s ((a + 32 : Nat) : Int) = decide (34 ≤ (Rst s a).length ∧ 34 + getV 2 s ((a + 32 : Nat) : Int) ≤ (Rst s a).length) := by
  unfold takeO
  rw [p34, show (2 : Int) = ((2 : Nat) : Int) from rfl, cut_rst ha, cut_rst ha]
  rw [Bool.eq_iff_iff, Bool.and_eq_true, decide_eq_true_eq, decide_eq_true_eq, decide_eq_true_eq]
theorem ptE_eq {s : ByteArray} {a : Nat} (ha : a ≤ s.size) (hm : mkE s (a : Int) = 0 ∨ mkE s (a : Int) = 3) : ptE s (a : Int) = if mkE s (a : Int) = 0 ∧ 34 ≤ (Rst s a).length ∧ 34 + getV 2 s ((a + 32 : Nat) : Int) ≤ (Rst s a).length then 0 else 3 := by
  unfold ptE
  have hh : hdE s (a : Int) = 0 ∨ hdE s (a : Int) = 3 := by rw [hdE_eq ha hm]; split <;> simp
  rw [p32, p24, p20, p19, errS_chain4 hh, hdE_eq ha hm, take_rst ha, show (1 : Int) = ((1 : Nat) : Int) from rfl, show (4 : Int) = ((4 : Nat) : Int) from rfl, show (8 : Int) = ((8 : Nat) : Int) from rfl, cut_rst ha, cut_rst ha, cut_rst ha]
  simp only [decide_eq_true_eq]
  by_cases h : mkE s (a : Int) = 0 ∧ 34 ≤ (Rst s a).length ∧ 34 + getV 2 s ((a + 32 : Nat) : Int) ≤ (Rst s a).length
  · rw [if_pos h, if_pos (⟨h.1, by omega⟩ : mkE s (a : Int) = 0 ∧ 19 ≤ (Rst s a).length), if_pos ⟨rfl, by omega⟩]
  · rw [if_neg h]
    by_cases h2 : mkE s (a : Int) = 0 ∧ 19 ≤ (Rst s a).length
    · rw [if_pos h2, if_neg (by omega)]
    · rw [if_neg h2, if_neg (by omega)]
theorem mkE_eq {s : ByteArray} {a : Nat} (ha : a ≤ s.size) : mkE s (a : Int) = if 1 ≤ (Rst s a).length then (if getV 1 s (a : Int) = 1 ∨ getV 1 s (a : Int) = 2 then 0 else 4) else 3 := by
  have e : cutO s (a : Int) 1 = decide (1 ≤ (Rst s a).length) := by
    have := cut_rst ha 0 1
    rw [Nat.zero_add, Nat.add_zero] at this
    exact this
  unfold mkE
  rw [e]
  by_cases h : 1 ≤ (Rst s a).length
  · rw [if_pos h, decide_eq_true h]
    split <;> rfl
  · rw [if_neg h, decide_eq_false h]
    split <;> rfl
/-! ### what is written is read again -/
theorem get0 {s : ByteArray} {a n : Nat} (ha : a ≤ s.size) (h : n ≤ (Rst s a).length) : getV n s (a : Int) = beV ((Rst s a).take n) := by
  have := get_rst (i := 0) (n := n) ha (by omega)
  rw [Nat.add_zero, List.drop_zero] at this
  exact this
theorem size_pos {s : ByteArray} {a : Nat} (h : 0 < (Rst s a).length) : a ≤ s.size := by rw [rst_len] at h; omega

/-- the bytes of a change of each kind -/
theorem encB_gone {c : Ch} (h : c.gone = true) : encB c = 2 :: UInt8.ofNat c.l.kind.toNat :: UInt8.ofNat c.l.n.toNat :: beL 16 c.l.p := by unfold encB headB; rw [if_pos h]; rfl
theorem encB_put {c : Ch} (h : c.gone = false) : encB c = 1 :: UInt8.ofNat c.l.kind.toNat :: UInt8.ofNat c.l.n.toNat :: (beL 16 c.l.p ++ UInt8.ofNat c.l.st.toNat :: (beL 4 c.l.ia ++ (beL 8 c.l.un.toNat ++ (beL 2 c.l.cl.size ++ c.l.cl.data.toList)))) := by
  unfold encB headB restB; rw [if_neg (by rw [h]; decide)]; simp
theorem toI_nat {n : Int} (h0 : 0 ≤ n) (h1 : n ≤ 1099511627776) : toI n.toNat = n := by unfold toI; rw [IntKind.wrap_i64]; omega
theorem barr_ext {a b : ByteArray} (h : a.data.toList = b.data.toList) : a = b := by
  apply ByteArray.ext
  exact Array.toList_inj.1 h
theorem enc_at {s : ByteArray} {a : Nat} {c : Ch} {post : List UInt8} (hR : Rst s a = encB c ++ post) (hc : changeS c = true) (ok : c.l.ok) :
    chE s (a : Int) = 0 ∧ chC s (a : Int) = c ∧ chN s (a : Int) = ((a + (encB c).length : Nat) : Int) := by
  have hr := right_range (change_right hc)
  have l16 := beL_length 16 c.l.p
  have fp : c.l.p < 256 ^ 16 := ok.p
  have kk : ((UInt8.ofNat c.l.kind.toNat).toNat : Int) = c.l.kind := by rw [byte_of_nat (by omega)]; omega
  have kn : ((UInt8.ofNat c.l.n.toNat).toNat : Int) = c.l.n := by rw [byte_of_nat (by omega)]; omega
  cases hg : c.gone with
  | true =>
    have hb : bareS c.l = true := by
      unfold changeS at hc
      rw [if_pos hg, Bool.and_eq_true] at hc
      exact hc.2
    unfold bareS at hb
    obtain ⟨b1, b2, b3, b4⟩ := of_decide_eq_true hb
    rw [encB_gone hg] at hR ⊢
    have hlen : (Rst s a).length = 19 + post.length := by rw [hR]; simp; omega
    have ha := size_pos (show 0 < (Rst s a).length by omega)
    have g0 : getV 1 s (a : Int) = 2 := by rw [get0 ha (by omega), hR]; exact beV_one 2
    have g1 : getV 1 s ((a + 1 : Nat) : Int) = (UInt8.ofNat c.l.kind.toNat).toNat := by rw [get_rst ha (by omega), hR]; exact beV_one _
    have g2 : getV 1 s ((a + 2 : Nat) : Int) = (UInt8.ofNat c.l.n.toNat).toNat := by rw [get_rst ha (by omega), hR]; exact beV_one _
    have g3 : getA s ((a + 3 : Nat) : Int) = c.l.p := by
      rw [getA_get, get_rst ha (by omega), hR]
      show beV ((beL 16 c.l.p ++ post).take 16) = _
      rw [take_app l16, beV_beL fp]
    have hm : mkE s (a : Int) = 0 := by rw [mkE_eq ha, if_pos (by omega), if_pos (Or.inr g0)]
    refine ⟨?_, ?_, ?_⟩
    · unfold chE; rw [if_pos g0, hdE_eq ha (Or.inl hm), if_pos ⟨hm, by omega⟩]
    · unfold chC hdL
      rw [if_pos g0, p3, p2, p1, g1, g2, g3, kk, kn]
      obtain ⟨gone, kind, p, n, st, cl, ia, un⟩ := c
      simp only at *
      subst hg b1 b3 b4
      have : cl = ⟨#[]⟩ := size_zero.2 b2
      subst this
      rfl
    · unfold chN
      rw [if_pos g0, p19]
      simp [l16]
  | false =>
    have hl : leaseS c.l = true := by unfold changeS at hc; rw [if_neg (by rw [hg]; decide)] at hc; exact hc
    obtain ⟨_, hun, hst, hcl⟩ := lease_range hl
    have ks : ((UInt8.ofNat c.l.st.toNat).toNat : Int) = c.l.st := by rw [byte_of_nat (by omega)]; omega
    have l4 := beL_length 4 c.l.ia
    have l8 := beL_length 8 c.l.un.toNat
    have l2 := beL_length 2 c.l.cl.size
    have lc : c.l.cl.data.toList.length = c.l.cl.size := rfl
    have R0 : Rst s a = 1 :: UInt8.ofNat c.l.kind.toNat :: UInt8.ofNat c.l.n.toNat :: (beL 16 c.l.p ++ (UInt8.ofNat c.l.st.toNat :: (beL 4 c.l.ia ++ (beL 8 c.l.un.toNat ++ (beL 2 c.l.cl.size ++ (c.l.cl.data.toList ++ post)))))) := by rw [hR, encB_put hg]; simp
    have hel : (encB c).length = 34 + c.l.cl.size := by rw [encB_put hg]; simp; omega
    have hlen : (Rst s a).length = 34 + c.l.cl.size + post.length := by rw [hR, List.length_append, hel]
    have ha := size_pos (show 0 < (Rst s a).length by omega)
    have D3 : (Rst s a).drop 3 = beL 16 c.l.p ++ (UInt8.ofNat c.l.st.toNat :: (beL 4 c.l.ia ++ (beL 8 c.l.un.toNat ++ (beL 2 c.l.cl.size ++ (c.l.cl.data.toList ++ post))))) := by rw [R0]; rfl
    have D19 : (Rst s a).drop 19 = UInt8.ofNat c.l.st.toNat :: (beL 4 c.l.ia ++ (beL 8 c.l.un.toNat ++ (beL 2 c.l.cl.size ++ (c.l.cl.data.toList ++ post)))) := by
      rw [show 19 = 3 + 16 from rfl, ← List.drop_drop, D3, drop_app l16]
    have D20 : (Rst s a).drop 20 = beL 4 c.l.ia ++ (beL 8 c.l.un.toNat ++ (beL 2 c.l.cl.size ++ (c.l.cl.data.toList ++ post))) := by
      rw [show 20 = 19 + 1 from rfl, ← List.drop_drop, D19]; rfl
    have D24 : (Rst s a).drop 24 = beL 8 c.l.un.toNat ++ (beL 2 c.l.cl.size ++ (c.l.cl.data.toList ++ post)) := by
      rw [show 24 = 20 + 4 from rfl, ← List.drop_drop, D20, drop_app l4]
    have D32 : (Rst s a).drop 32 = beL 2 c.l.cl.size ++ (c.l.cl.data.toList ++ post) := by
      rw [show 32 = 24 + 8 from rfl, ← List.drop_drop, D24, drop_app l8]
    have D34 : (Rst s a).drop 34 = c.l.cl.data.toList ++ post := by
      rw [show 34 = 32 + 2 from rfl, ← List.drop_drop, D32, drop_app l2]
    have g0 : getV 1 s (a : Int) = 1 := by rw [get0 ha (by omega), R0]; exact beV_one 1
    have g1 : getV 1 s ((a + 1 : Nat) : Int) = (UInt8.ofNat c.l.kind.toNat).toNat := by rw [get_rst ha (by omega), R0]; exact beV_one _
    have g2 : getV 1 s ((a + 2 : Nat) : Int) = (UInt8.ofNat c.l.n.toNat).toNat := by rw [get_rst ha (by omega), R0]; exact beV_one _
    have g3 : getA s ((a + 3 : Nat) : Int) = c.l.p := by rw [getA_get, get_rst ha (by omega), D3, take_app l16, beV_beL fp]
    have g19 : getV 1 s ((a + 19 : Nat) : Int) = (UInt8.ofNat c.l.st.toNat).toNat := by rw [get_rst ha (by omega), D19]; exact beV_one _
    have g20 : getV 4 s ((a + 20 : Nat) : Int) = c.l.ia := by rw [get_rst ha (by omega), D20, take_app l4, beV_beL ok.ia]
    have g24 : getV 8 s ((a + 24 : Nat) : Int) = c.l.un.toNat := by rw [get_rst ha (by omega), D24, take_app l8, beV_beL (by show _ < 18446744073709551616; omega)]
    have g32 : getV 2 s ((a + 32 : Nat) : Int) = c.l.cl.size := by rw [get_rst ha (by omega), D32, take_app l2, beV_beL (by show _ < 65536; omega)]
    have ht : takeO s ((a + 32 : Nat) : Int) = true := by rw [take_rst ha, g32]; exact decide_eq_true (by omega)
    have gc : takeV s ((a + 32 : Nat) : Int) = c.l.cl := by
      unfold takeV
      rw [if_pos ht, g32, p34]
      apply barr_ext
      rw [cutV_rst ha (by omega), D34, take_app lc]
    have ge : takeE s ((a + 32 : Nat) : Int) = ((a + 34 + c.l.cl.size : Nat) : Int) := by
      unfold takeE
      rw [if_pos ht, g32]; omega
    have hm : mkE s (a : Int) = 0 := by rw [mkE_eq ha, if_pos (by omega), if_pos (Or.inl g0)]
    have h12 : ¬ getV 1 s (a : Int) = 2 := by rw [g0]; decide
    refine ⟨?_, ?_, ?_⟩
    · unfold chE; rw [if_neg h12, ptE_eq ha (Or.inl hm), if_pos ⟨hm, by omega, by rw [g32]; omega⟩]
    · unfold chC ptL
      rw [if_neg h12, p32, p24, p20, p19, p3, p2, p1, g1, g2, g3, g19, g20, g24, gc, kk, kn, ks, toI_nat hun.1 hun.2]
      obtain ⟨gone, kind, p, n, st, cl, ia, un⟩ := c
      simp only at *
      subst hg
      rfl
    · unfold chN
      rw [if_neg h12, p32, ge, hel]
      omega
end Go.Proofs.Ytgioifdmmneapaa
