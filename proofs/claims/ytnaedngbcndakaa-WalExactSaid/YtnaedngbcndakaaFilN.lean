/-
  The contract of the law's own comparison of names. Condition: a list of names has fewer than 2^40 places.
-/
import Derived.Test.YtnaedngbcndakaaFilJ
namespace Go.Proofs.Ytnaedngbcndakaa
open Go.RowKit Go.Maps

/-- a row of texts that is read -/
def RowS (w : World) (v : Value) (l : List Nm) : Prop := ∃ p cap, v = .slice p l.length cap ∧ ∀ j x, l[j]? = some x → ∃ b, p = some ⟨b, 0, none⟩ ∧ w.cell? ⟨b, j, none⟩ = some (St x)
theorem RowS.no {w w' : World} {v : Value} {l : List Nm} (h : RowS w v l) (F : Fr No w w') : RowS w' v l := by
  obtain ⟨p, cap, h1, h2⟩ := h
  refine ⟨p, cap, h1, fun j x hj => ?_⟩
  obtain ⟨b, h3, h4⟩ := h2 j x hj
  refine ⟨b, h3, ?_⟩
  have hl := World.block_lt_of_cell? w ⟨b, j, none⟩ h4
  rw [World.cell?_of_block (a := ⟨b, j, none⟩) (F.block b hl (fun e => e))]
  exact h4
theorem RowS.at {w : World} {v : Value} {l : List Nm} (h : RowS w v l) {k : Nat} (hk : k < l.length) : ∃ b cap, v = .slice (some ⟨b, 0, none⟩) l.length cap ∧ w.cell? ⟨b, k, none⟩ = some (St l[k]) := by
  obtain ⟨p, cap, rfl, h2⟩ := h
  obtain ⟨b, rfl, h4⟩ := h2 k l[k] (List.getElem?_eq_getElem hk)
  exact ⟨b, cap, rfl, h4⟩
theorem RowS.own {w : World} {base n : Nat} {v : Value} {l : List Nm} (h : w.ownsRow base 9 1 v n (l.map St)) : RowS w v l := by
  have hl : n = l.length := by have := h.1; simp at this; omega
  subst hl
  rcases h.2 with ⟨rfl, h0⟩ | ⟨g, cap, cur, rfl, hb, hg, h1, h2, h3, h4⟩
  · have : l = [] := List.eq_nil_of_length_eq_zero h0
    subst this
    exact ⟨none, 0, rfl, fun j x hj => by simp at hj⟩
  · refine ⟨_, cap, rfl, fun j x hj => ⟨g, rfl, ?_⟩⟩
    have hjl : j < l.length := (List.getElem?_eq_some_iff.1 hj).1
    rw [h.cellAt j (by omega), List.getElem?_map, hj]
    rfl
theorem take_eq {a b : List Nm} (hl : a.length = b.length) (k : Nat) (hk : k < a.length) (h : a.take k = b.take k) (h2 : a[k] = b[k]'(hl ▸ hk)) : a.take (k + 1) = b.take (k + 1) := by
  rw [List.take_succ_eq_append_getElem hk, List.take_succ_eq_append_getElem (hl ▸ hk), h, h2]
set_option maxRecDepth 100000 in
set_option maxHeartbeats 1000000 in
theorem names_any {w : World} {va vb : Value} {a b : List Nm} (ha : RowS w va a) (hb : RowS w vb b) (hn : a.length < 1099511627776) :
    Calls Try.prog 12 #[va, vb] w (Tells w (.bool (decide (a = b)))) := by
  have HA := hide ha
  have HB := hide hb
  obtain ⟨p, ca, rfl, h7⟩ := ha
  obtain ⟨q, cb, rfl, h8⟩ := hb
  clear h7 h8
  by_cases hl : a.length = b.length
  · have hl2 : (a.length : Int) = (b.length : Int) := by omega
    have HL := hide hl
    obtain ⟨n, hN⟩ : ∃ n, n = b.length := ⟨_, rfl⟩
    have e1 : a.length = n := by omega
    rw [← hN] at HB hl
    rw [e1] at hn HA
    rw [e1, ← hN]
    have E1 := hide e1
    have E2 := hide hN
    clear hl hl2 e1 hN
    go_enter Try.func12, Try.ntmps12
    go_wp2
    go_loopw [5] (fun i wr => ∃ k : Nat, k ≤ n ∧ i = .int .i64 (k : Int) ∧ Hid (a.take k = b.take k) ∧ Fr No w wr) (fun i _ => n - (intOf i).toNat)
    case atStart => exact ⟨0, Nat.zero_le _, rfl, hide rfl, Fr.refl _ _⟩
    case round =>
      obtain ⟨k, hk, rfl, HT, hF⟩ := hrel
      by_cases hlt : k < n
      · have hlt2 : (k : Int) < (n : Int) := by omega
        have hka : k < a.length := by rw [E1.out]; exact hlt
        have hkb : k < b.length := by rw [← E2.out]; exact hlt
        obtain ⟨ba, ca2, ea, cka⟩ := (HA.out.no hF).at hka
        obtain ⟨bb, cb2, eb, ckb⟩ := (HB.out.no hF).at hkb
        obtain ⟨rfl, h7, h8⟩ : p = some ⟨ba, 0, none⟩ ∧ n = a.length ∧ ca = ca2 := by simpa using ea
        clear h7 h8
        obtain ⟨rfl, h7, h8⟩ : q = some ⟨bb, 0, none⟩ ∧ n = b.length ∧ cb = cb2 := by simpa using eb
        clear h7 h8
        have TE := hide (take_eq (E1.out.trans E2.out) k hka HT.out)
        have NE := hide (fun e : a = b => show a[k] = b[k] by subst e; rfl)
        generalize a[k] = x at *
        generalize b[k] = y at *
        clear ea eb
        by_cases hx : x = y
        · subst hx
          have TE2 := hide (TE.out rfl)
          clear TE NE
          go_wp2
          go_quiet (fail)
          go_wp2
          go_roundw
          case rel => exact ⟨k + 1, by omega, by go_num, TE2, hF.andNo (Fr.drewN _ _)⟩
          case measure => simp [intOf]; omega
        · have hxy : (x == y) = false := by simpa using hx
          have V := hide (show decide (a = b) = false from decide_eq_false (fun e => hx (NE.out e)))
          clear TE NE hx
          go_wp2
          go_quiet (fail)
          go_wp2
          go_ret
          exact ⟨congrArg Ending.returned (bool_eq V.out.symm), hF.andNo (Fr.drewN _ _)⟩
      · have hlt2 : ¬ (k : Int) < (n : Int) := by omega
        go_wp2
        go_ret
        have ht := HT.out
        rw [List.take_of_length_le (by rw [E1.out]; omega), List.take_of_length_le (by rw [← E2.out]; omega)] at ht
        exact ⟨congrArg Ending.returned (bool_eq (decide_eq_true ht).symm), hF⟩
  · have hl2 : ¬ (a.length : Int) = (b.length : Int) := by omega
    have V := hide (show decide (a = b) = false from decide_eq_false (fun e => hl (by rw [e])))
    clear hl
    go_enter Try.func12, Try.ntmps12
    go_wp2
    go_ret
    exact ⟨congrArg Ending.returned (bool_eq V.out.symm), Fr.refl _ _⟩
end Go.Proofs.Ytnaedngbcndakaa
