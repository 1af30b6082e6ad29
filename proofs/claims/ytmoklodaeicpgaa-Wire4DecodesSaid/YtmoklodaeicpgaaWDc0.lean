/-
  Pieces of the document's own Decode. No condition beyond those in each theorem's own statement.
-/
import Derived.Test.YtmoklodaeicpgaaWEn0
import Derived.Test.YtmoklodaeicpgaaOpPa
namespace Go.Proofs.Ytmoklodaeicpgaa
open Go.RowKit Go.Joins

set_option maxRecDepth 100000 in
theorem rword_any (s : ByteArray) (hs : s.size ≤ 65507) (a : Nat) (ha : a ≤ 1000) (w : World) : Calls Try.prog 33 #[.string s, .int .i64 (a : Int)] w (Same (.int .u32 ((UInt32.ofNat (getV 4 s (a : Int))).toNat : Int)) w) := by
  have G := hide (get32_ref s (by unfold maxLen; omega) (a := (a : Int)) ⟨by omega, by omega⟩ w)
  rw [u32_of _ (getV_lt 4 s (a : Int))]
  generalize getV 4 s (a : Int) = g at *
  generalize cutO s (a : Int) 4 = o at *
  clear hs ha
  go_enter Try.func33, Try.ntmps33
  go_wp2_with fail
  refine G.out.mono ?_
  rintro e w1 ⟨rfl, rfl⟩
  go_wp2
  go_ret
  exact ⟨rfl, rfl⟩
theorem byte_at (s : ByteArray) (k : Nat) (h : k < s.size) : s[k] = (lb s).getD k 0 := by
  rw [List.getD_eq_getElem?_getD, List.getElem?_eq_getElem (by rw [lb_len]; exact h)]
  rfl
theorem two_at (s : ByteArray) (a : Nat) (h : a + 2 ≤ s.size) : getV 2 s (a : Int) = ((lb s).getD a 0).toNat * 256 + ((lb s).getD (a + 1) 0).toNat := by
  unfold getV
  have hc : cutO s (a : Int) ((2 : Nat) : Int) = true := by unfold cutO; rw [decide_eq_true_eq]; omega
  rw [cut_yes hc]
  show beV (sub s a 2).data.toList = _
  rw [sub_list]
  have e : (s.data.toList.drop a).take 2 = [(lb s).getD a 0, (lb s).getD (a + 1) 0] := by
    have h1 : a < (lb s).length := by rw [lb_len]; omega
    have h2 : a + 1 < (lb s).length := by rw [lb_len]; omega
    show ((lb s).drop a).take 2 = _
    rw [List.drop_eq_getElem_cons h1, List.drop_eq_getElem_cons h2, List.getD_eq_getElem?_getD, List.getD_eq_getElem?_getD, List.getElem?_eq_getElem h1, List.getElem?_eq_getElem h2]
    rfl
  rw [e]
  simp [beV, beF]
theorem BoxM.put {b : Nat} {m : Hd} {v : Value} {W : World} (H : BoxM b m v W) {k : Nat} (hk : k < 14) (f : Fv) {m2 : Hd} (h : m.fs.set k f = m2.fs) : BoxM b m2 v (W.setCell ⟨b, k, none⟩ f.val) := by
  have := BoxF.set (fs := m.fs) H (k := k) hk f
  rw [h] at this
  exact this
/-- the memory of the document's Decode: the call's own result box -/
def RD (w : World) (r : Nat) (W : World) : Prop := Below w.heap.size w W ∧ BoxM r zeroH (.slice none 0 0) W ∧ w.heap.size ≤ r
theorem RD.step {w : World} {r : Nat} {W W2 : World} (h : RD w r W) (hb : Below W.heap.size W W2) : RD w r W2 := ⟨chain h.1 hb, h.2.1.step hb, h.2.2⟩
/-- .. and the message's box -/
def RM (w : World) (r b : Nat) (m : Hd) (W : World) : Prop := RD w r W ∧ BoxM b m (.slice none 0 0) W ∧ r < b
theorem RM.step {w : World} {r b : Nat} {m : Hd} {W W2 : World} (h : RM w r b m W) (hb : Below W.heap.size W W2) : RM w r b m W2 := ⟨h.1.step hb, h.2.1.step hb, h.2.2⟩
theorem RM.put {w : World} {r b : Nat} {m : Hd} {W : World} (H : RM w r b m W) {k : Nat} (hk : k < 14) (f : Fv) {m2 : Hd} (h : m.fs.set k f = m2.fs) : RM w r b m2 (W.setCell ⟨b, k, none⟩ f.val) :=
  ⟨⟨H.1.1.setCell (p := ⟨b, k, none⟩) (Nat.le_trans H.1.2.2 (Nat.le_of_lt H.2.2)) _, (set_other (Nat.ne_of_lt H.2.2)).trans H.1.2.1, H.1.2.2⟩, H.2.1.put hk f h, H.2.2⟩
theorem RM.cell {w : World} {r b : Nat} {m : Hd} {W : World} (H : RM w r b m W) {k : Nat} {f : Fv} (h : m.fs[k]? = some f) : W.cell? ⟨b, k, none⟩ = some f.val ∧ W.frozen? ⟨b, k, none⟩ = false := BoxF.at (fs := m.fs) H.2.1 h
theorem RM.more {w : World} {r b : Nat} {m : Hd} {W W2 : World} {base : Nat} {va : Value} {ar : List ByteArray} (H : RM w r b m W) (h0 : OwnS W base va ar) (q2 : W.grownBy W2 va.ownBlock) (q3 : Below w.heap.size W W2) : RM w r b m W2 :=
  ⟨⟨H.1.1.trans q3, grown_keep h0 q2 H.1.2.1 (by decide), H.1.2.2⟩, grown_keep h0 q2 H.2.1 (by decide), H.2.2⟩
/-- what an overload that is none tells of its data -/
theorem bad_data {l : List Opt} (h : ovN l = none) : hasC 52 l = true ∧ ((findD l 52).size ≠ 1 ∨ ∃ x : UInt8, findD l 52 = ⟨#[x]⟩ ∧ ((x.toNat : Int) < 1 ∨ (3 : Int) < (x.toNat : Int))) := by
  rcases ov_cases l with ⟨e, _⟩ | ⟨hc, ⟨_, e⟩ | ⟨_, _, e⟩ | ⟨_, _, _, e⟩ | ⟨h1, h2, h3, _⟩⟩
  · rw [e] at h; cases h
  · rw [e] at h; cases h
  · rw [e] at h; cases h
  · rw [e] at h; cases h
  · refine ⟨hc, ?_⟩
    by_cases hs : (findD l 52).size = 1
    · right
      generalize findD l 52 = d at *
      obtain ⟨x, hx⟩ : ∃ x : UInt8, d = ⟨#[x]⟩ := by
        cases d with
        | mk a =>
          obtain ⟨l⟩ := a
          match l, hs with
          | [x], _ => exact ⟨x, rfl⟩
      refine ⟨x, hx, ?_⟩
      subst hx
      by_cases e1 : x = 1
      · exact absurd (by rw [e1]) h1
      by_cases e2 : x = 2
      · exact absurd (by rw [e2]) h2
      by_cases e3 : x = 3
      · exact absurd (by rw [e3]) h3
      have f1 : x.toNat ≠ 1 := fun e => e1 (UInt8.toNat_inj.1 e)
      have f2 : x.toNat ≠ 2 := fun e => e2 (UInt8.toNat_inj.1 e)
      have f3 : x.toNat ≠ 3 := fun e => e3 (UInt8.toNat_inj.1 e)
      omega
    · exact Or.inl hs
theorem dec_go {s : ByteArray} (h1 : 240 ≤ s.size) (h2 : s.size ≤ 65507) (h3 : sub s 236 4 = bs cookieL) : decR s = (if parseE [(lb s).drop 240] ≠ 0 then (parseE [(lb s).drop 240], zeroH, []) else match ovN (parseO [(lb s).drop 240]) with
    | none => (130, zeroH, [])
    | some n => if parseE (areasL s (getH s) n) ≠ 0 then (parseE (areasL s (getH s) n), zeroH, []) else (0, headN (getH s) n, kept 52 (parseO (areasL s (getH s) n)))) := by
  unfold decR
  rw [if_neg (by omega), if_neg (by omega), if_neg (fun e => e h3)]
  rfl
end Go.Proofs.Ytmoklodaeicpgaa
