/-
  The codes of kinds; what an identity association is: soundCode, soundInner, Sound. Conditions: a row takes at most 2^47 bytes; an int is an int of 64 bits.
-/
import Derived.Test.YtcpldojgmboipaaSxI
import Derived.Shelf.Abstract
namespace Go.Proofs.Ytcpldojgmboipaa
open Go.RowKit Go.Joins

theorem u16_eq {a b : Int} (h : a = b) : Value.int .u16 a = .int .u16 b := by rw [h]
set_option maxRecDepth 100000 in
theorem kindOf_any (c : UInt16) (w : World) : Calls Try.prog 75 #[.int .u16 (c.toNat : Int)] w (Same (.tuple #[.int .i64 (kindK c.toNat), .bool (!decide (kindK c.toNat = 0))]) w) := by
  generalize c.toNat = n
  unfold kindK
  by_cases h3 : n = 3
  · subst h3
    go_enter Try.func75, Try.ntmps75
    go_wp2
    go_ret2
    exact ⟨rfl, rfl⟩
  · by_cases h4 : n = 4
    · subst h4
      go_enter Try.func75, Try.ntmps75
      go_wp2
      go_ret2
      exact ⟨rfl, rfl⟩
    · by_cases h25 : n = 25
      · subst h25
        go_enter Try.func75, Try.ntmps75
        go_wp2
        go_ret2
        exact ⟨rfl, rfl⟩
      · rw [if_neg h3, if_neg h4, if_neg h25]
        have e3 : ((n : Int) == 3) = false := by simpa using (by omega : ¬ (n : Int) = 3)
        have e4 : ((n : Int) == 4) = false := by simpa using (by omega : ¬ (n : Int) = 4)
        have e25 : ((n : Int) == 25) = false := by simpa using (by omega : ¬ (n : Int) = 25)
        clear h3 h4 h25
        go_enter Try.func75, Try.ntmps75
        go_wp2
        go_ret2
        exact ⟨rfl, rfl⟩
def codeN (k : Int) : Nat := if k = 2 then 3 else if k = 3 then 4 else if k = 4 then 25 else 0
theorem codeN_K {k : Int} (h : kindO k = true) : codeN k = (codeK k).toNat := by
  rcases kindO_iff.1 h with rfl | rfl | rfl <;> rfl
set_option maxRecDepth 100000 in
theorem codeOf_any (k : Int) (w : World) : Calls Try.prog 37 #[.int .i64 k] w (Same (.tuple #[.int .u16 (codeN k : Nat), .bool (kindO k)]) w) := by
  unfold codeN
  by_cases h3 : k = 2
  · subst h3
    go_enter Try.func37, Try.ntmps37
    go_wp2
    go_ret2
    exact ⟨rfl, rfl⟩
  · by_cases h4 : k = 3
    · subst h4
      go_enter Try.func37, Try.ntmps37
      go_wp2
      go_ret2
      exact ⟨rfl, rfl⟩
    · by_cases h25 : k = 4
      · subst h25
        go_enter Try.func37, Try.ntmps37
        go_wp2
        go_ret2
        exact ⟨rfl, rfl⟩
      · rw [if_neg h3, if_neg h4, if_neg h25]
        have K := hide (show kindO k = false by unfold kindO; simp [h3, h4, h25])
        have e3 : (k == 2) = false := by simpa using h3
        have e4 : (k == 3) = false := by simpa using h4
        have e25 : (k == 4) = false := by simpa using h25
        clear h3 h4 h25
        go_enter Try.func37, Try.ntmps37
        go_wp2
        go_ret2
        exact ⟨congrArg Ending.returned (tup2 rfl (by rw [K.out]; rfl)), rfl⟩
set_option maxRecDepth 100000 in
theorem codeWithin_any (k : Int) (w : World) : Calls Try.prog 70 #[.int .i64 k] w (Same (.int .u16 ((codeW k).toNat : Int)) w) := by
  unfold codeW
  by_cases h : k = 4
  · subst h
    go_enter Try.func70, Try.ntmps70
    go_wp2
    go_ret
    exact ⟨rfl, rfl⟩
  · rw [if_neg h]
    have e : (k == 4) = false := by simpa using h
    clear h
    go_enter Try.func70, Try.ntmps70
    go_wp2
    go_ret
    exact ⟨rfl, rfl⟩
set_option maxRecDepth 100000 in
theorem soundCode_any (c : Int) (w : World) : Calls Try.prog 47 #[.int .i64 c] w (Gives (.bool (codeO c)) w) := by
  by_cases h : c = -1
  · subst h
    go_enter Try.func47, Try.ntmps47
    go_wp2
    go_ret
    exact ⟨rfl, Below.refl _ _⟩
  · have e : (c == -1) = false := by simpa using h
    have P := hide (fun W => putStatus_any c W)
    have E := hide (show codeO c = !(statV c).isEmpty by
      rw [Bool.eq_iff_iff, codeO_iff]
      unfold statV
      by_cases h2 : 0 ≤ c ∧ c ≤ 65535
      · rw [if_pos h2]
        have : beL 2 c.toNat ≠ [] := fun e => by have := beL_length 2 c.toNat; rw [e] at this; cases this
        constructor
        · intro _; simpa using this
        · intro _; omega
      · rw [if_neg h2]
        constructor
        · intro _; omega
        · intro h3; cases h3)
    generalize statV c = y at *
    clear h
    go_enter Try.func47, Try.ntmps47
    go_wp2_with fail
    refine (P.out _).mono ?_
    rintro e w' ⟨rfl, hb⟩
    go_wp2
    go_ret
    exact ⟨congrArg Ending.returned (by rw [E.out]; rfl), hb⟩
set_option maxRecDepth 100000 in
set_option maxHeartbeats 1000000 in
theorem soundInner_any (k : Int) (x : In) (hx : Fits x.addr) (w : World) : Calls Try.prog 50 #[.int .i64 k, IV x] w (Gives (.bool (soundI k x)) w) := by
  have SA := hide (fun W => sound_any hx x.bits W)
  have SC := hide (fun W => soundCode_any x.code W)
  have SD := hide (show soundI k x = (soundS x.addr x.bits && (decide (k = 4) || decide (x.bits = 128)) && codeO x.code) from rfl)
  have B0 := hide (bx_new w 74 (cellsV x).toArray)
  have D0 := hide (below_alloc w (.cells (cellsV x).toArray 74))
  have G := hide (fun W (H : Bx w.heap.size 74 (cellsV x).toArray W) => (show W.cell? ⟨w.heap.size, 2, none⟩ = some (.int .i64 x.bits) ∧ W.cell? ⟨w.heap.size, 5, none⟩ = some (.int .i64 x.code) from ⟨H.cell 2, H.cell 5⟩))
  obtain ⟨a, n, p, v, c⟩ := x
  generalize soundI k ⟨a, n, p, v, c⟩ = r at *
  simp only at *
  generalize codeO c = cc at *
  cases hs : soundS a n with
  | false =>
    rw [hs] at SA SD
    have Z := hide (show r = false from SD.out)
    clear SC SD G B0
    go_enter Try.func50, Try.ntmps50
    go_wp2_with fail
    refine (SA.out _).mono ?_
    rintro e w1 ⟨rfl, hb1⟩
    have D1 := hide (D0.out.trans (hb1.mono D0.out.size))
    go_wp2
    go_ret
    exact ⟨congrArg Ending.returned (bool_eq Z.out.symm), D1.out⟩
  | true =>
    rw [hs] at SA SD
    by_cases hk : k = 4
    · subst hk
      have Z := hide (show r = cc from SD.out)
      clear SD
      go_enter Try.func50, Try.ntmps50
      go_wp2_with fail
      refine (SA.out _).mono ?_
      rintro e w1 ⟨rfl, hb1⟩
      have D1 := hide (D0.out.trans (hb1.mono D0.out.size))
      obtain ⟨y2, y5⟩ := G.out _ (B0.out.step hb1)
      clear hb1
      go_wp2_with fail
      refine (SC.out _).mono ?_
      rintro e w2 ⟨rfl, hb2⟩
      have D2 := hide (D1.out.trans (hb2.mono D1.out.size))
      go_wp2
      go_ret
      exact ⟨congrArg Ending.returned (bool_eq Z.out.symm), D2.out⟩
    · have ek : (k == 4) = false := by simpa using hk
      by_cases hn : n = 128
      · have Z := hide (show r = cc by rw [SD.out, decide_eq_true hn, Bool.or_true]; rfl)
        have en : (n == 128) = true := by simpa using hn
        clear SD hk hn
        go_enter Try.func50, Try.ntmps50
        go_wp2_with fail
        refine (SA.out _).mono ?_
        rintro e w1 ⟨rfl, hb1⟩
        have D1 := hide (D0.out.trans (hb1.mono D0.out.size))
        obtain ⟨y2, y5⟩ := G.out _ (B0.out.step hb1)
        clear hb1
        go_wp2_with fail
        refine (SC.out _).mono ?_
        rintro e w2 ⟨rfl, hb2⟩
        have D2 := hide (D1.out.trans (hb2.mono D1.out.size))
        go_wp2
        go_ret
        exact ⟨congrArg Ending.returned (bool_eq Z.out.symm), D2.out⟩
      · have Z := hide (show r = false by rw [SD.out, decide_eq_false hn, decide_eq_false hk]; rfl)
        have en : (n == 128) = false := by simpa using hn
        clear SD hk hn SC
        go_enter Try.func50, Try.ntmps50
        go_wp2_with fail
        refine (SA.out _).mono ?_
        rintro e w1 ⟨rfl, hb1⟩
        have D1 := hide (D0.out.trans (hb1.mono D0.out.size))
        obtain ⟨y2, y5⟩ := G.out _ (B0.out.step hb1)
        clear hb1
        go_wp2
        go_ret
        exact ⟨congrArg Ending.returned (bool_eq Z.out.symm), D1.out⟩
theorem getD_some {l : List In} {i : Nat} {x d : In} (h : l[i]? = some x) : l.getD i d = x := by rw [List.getD_eq_getElem?_getD, h]; rfl
def idxI (P : In → Bool) (l : List In) : Int := match l.findIdx? P with
  | some i => (i : Int)
  | none => -1
theorem idx_at {P : In → Bool} {l : List In} {k : Nat} {x : In} (hx : l[k]? = some x) (h : ∀ j, j < k → P (l.getD j (⟨0, 0, 0, 0, 0⟩ : In)) = false) (hp : P x = true) : idxI P l = (k : Int) := by
  obtain ⟨hk, he⟩ := List.getElem?_eq_some_iff.1 hx
  have : l.findIdx? P = some k := List.findIdx?_eq_some_iff_getElem.2 ⟨hk, by rw [he]; exact hp, fun j hj => by
    have := h j hj
    rw [List.getD_eq_getElem?_getD, List.getElem?_eq_getElem (show j < l.length by omega)] at this
    simpa using this⟩
  unfold idxI
  rw [this]
theorem idx_no {P : In → Bool} {l : List In} (h : ∀ j, j < l.length → P (l.getD j (⟨0, 0, 0, 0, 0⟩ : In)) = false) : idxI P l = -1 := by
  have : l.findIdx? P = none := List.findIdx?_eq_none_iff.2 fun x hx => by
    obtain ⟨j, hj, rfl⟩ := List.getElem_of_mem hx
    have := h j hj
    rw [List.getD_eq_getElem?_getD, List.getElem?_eq_getElem hj] at this
    simpa using this
  unfold idxI
  rw [this]
theorem idx_any (P : In → Bool) (l : List In) : decide (0 ≤ idxI P l) = l.any P := by
  unfold idxI
  cases h : l.findIdx? P with
  | none =>
    have := List.findIdx?_eq_none_iff.1 h
    rw [show l.any P = false from List.any_eq_false.2 (fun x hx => by simpa using this x hx)]
    rfl
  | some i =>
    obtain ⟨hi, h1, _⟩ := List.findIdx?_eq_some_iff_getElem.1 h
    rw [show l.any P = true from List.any_eq_true.2 ⟨_, List.getElem_mem hi, h1⟩]
    simp
set_option maxRecDepth 100000 in
set_option maxHeartbeats 1000000 in
theorem index_any (g : FuncId) (cb : Array Value) (P : In → Bool) {v : Value} {l : List In} (hl : l.length * 40 ≤ 140737488355328) (w : World) (hv : LstI v l w)
    (eg : ∀ args w, (callFunc g args).run Try.prog w = .ok (.enter g args) w)
    (hf : ∀ W, Below w.heap.size w W → ∀ x ∈ l, Calls Try.prog g (#[IV x] ++ cb) W (Gives (.bool (P x)) W)) :
    Calls Try.prog 72 #[v, .func (.func g) #[] cb] w (Gives (.int .i64 (idxI P l)) w) := by
  have HF := hide hf
  have HV := hide (fun W (H : Below w.heap.size w W) => hv.step H)
  obtain ⟨q, c, rfl⟩ := lstI_len hv
  clear hf hv
  go_enter Try.func72, Try.ntmps72
  go_wp2
  go_loopw [8] (fun i wr => ∃ k : Nat, k ≤ l.length ∧ i = .int .i64 (k : Nat) ∧ (∀ j, j < k → P (l.getD j (⟨0, 0, 0, 0, 0⟩ : In)) = false) ∧ Below w.heap.size w wr) (fun i _ => l.length - (intOf i).toNat)
  case atStart => exact ⟨0, Nat.zero_le _, rfl, fun j h => absurd h (Nat.not_lt_zero _), Below.refl _ _⟩
  case round =>
    obtain ⟨k, hk, rfl, hg, HB⟩ := hrel
    have HG := hide hg
    clear hg
    by_cases hlt : k < l.length
    · obtain ⟨x, hx⟩ := getI_some hlt
      obtain ⟨b, o, rfl, _, hat⟩ := lstI_at (HV.out _ HB) hx
      obtain ⟨x1, x2, x3, x4, x5, x6⟩ := hat.cells
      clear hat
      have hc := HF.out _ HB x (List.mem_of_getElem? hx)
      have GD := hide (getD_some (d := (⟨0, 0, 0, 0, 0⟩ : In)) hx)
      cases e : P x with
      | false =>
        rw [e] at hc
        have E := hide e
        clear e hx
        go_wp2_with (go_at_fn g; refine hc.mono ?_; rintro e w' ⟨rfl, hb⟩)
        go_roundw
        case rel =>
          refine ⟨k + 1, hlt, by go_num, fun j hj => ?_, chain HB hb⟩
          by_cases e : j = k
          · rw [e, GD.out]; exact E.out
          · exact HG.out j (by omega)
        case measure => simp [intOf]; omega
      | true =>
        rw [e] at hc
        have R := hide (idx_at hx HG.out e)
        clear e hx
        go_wp2_with (go_at_fn g; refine hc.mono ?_; rintro e w' ⟨rfl, hb⟩)
        go_ret
        exact ⟨congrArg Ending.returned (i64_eq R.out.symm), chain HB hb⟩
    · have R := hide (idx_no (P := P) (l := l) (fun i hi => HG.out i (by omega)))
      go_wp2
      go_ret
      exact ⟨congrArg Ending.returned (i64_eq R.out.symm), HB⟩
set_option maxHeartbeats 400000 in
theorem contains_any (g : FuncId) (cb : Array Value) (P : In → Bool) {v : Value} {l : List In} (hl : l.length * 40 ≤ 140737488355328) (w : World) (hv : LstI v l w)
    (eg : ∀ args w, (callFunc g args).run Try.prog w = .ok (.enter g args) w)
    (hf : ∀ W, Below w.heap.size w W → ∀ x ∈ l, Calls Try.prog g (#[IV x] ++ cb) W (Gives (.bool (P x)) W)) :
    Calls Try.prog 48 #[v, .func (.func g) #[] cb] w (Gives (.bool (l.any P)) w) := by
  have IX := hide (index_any g cb P hl w hv eg hf)
  have R := hide (idx_any P l)
  clear hf eg
  obtain ⟨q, c, rfl⟩ := lstI_len hv
  clear hv
  generalize idxI P l = n at *
  generalize l.any P = r at *
  go_enter Try.func48, Try.ntmps48
  go_wp2_with fail
  refine IX.out.mono ?_
  rintro e w' ⟨rfl, hb⟩
  go_wp2
  go_ret
  exact ⟨congrArg Ending.returned (bool_eq R.out), hb⟩

end Go.Proofs.Ytcpldojgmboipaa
