/-
  The leases of a table as a list in their order: what a change does, what lists of changes do, what takes a change back. Plain definitions and mathematics; no program is walked. No condition beyond those in each theorem's own statement.
-/
import Derived.Test.YtpldkgollhbolaaLMm
namespace Go.Proofs.Ytpldkgollhbolaa
open Go.RowKit Go.Joins

def cmpL (x y : Ls) : Int := compareS x.kind x.p x.n y.kind y.p y.n
def keyB (x y : Ls) : Bool := decide (x.kind = y.kind ∧ x.p = y.p ∧ x.n = y.n)
def meetL (x y : Ls) : Bool := meetS x.kind x.p x.n y.kind y.p y.n
def ownB (x y : Ls) : Bool := decide (x.kind = y.kind ∧ x.cl = y.cl ∧ x.ia = y.ia)
def bndB (x : Ls) : Bool := decide (x.st = 1)
/-- those with another key -/
def restL (L : List Ls) (x : Ls) : List Ls := L.filter (fun y => !keyB y x)
def putL (x : Ls) : List Ls → List Ls
  | [] => [x]
  | y :: r => if cmpL x y < 0 then x :: y :: r else y :: putL x r
def thereL (L : List Ls) (x : Ls) : Bool := L.any (fun y => keyB y x)
def takenL (R : List Ls) (x : Ls) : Bool := R.any (fun y => bndB x && bndB y && ownB x y)
def clashL (R : List Ls) (x : Ls) : Bool := R.any (fun y => meetL x y)
/-- a change's error; 0: none -/
def errL (L : List Ls) (c : Ch) : Nat :=
  if changeS c = false then 80
  else if c.gone = true then (if thereL L c.l = true then 0 else 62)
  else if takenL (restL L c.l) c.l = true then 90
  else if clashL (restL L c.l) c.l = true then 91
  else if 1024 ≤ (restL L c.l).length then 63 else 0
def chgL (L : List Ls) (c : Ch) : List Ls := if c.gone = true then restL L c.l else putL c.l (restL L c.l)
def applyE : List Ls → List Ch → Nat
  | _, [] => 0
  | L, c :: cs => if errL L c = 0 then applyE (chgL L c) cs else errL L c
def applyG : List Ls → List Ch → List Ls
  | L, [] => L
  | L, c :: cs => applyG (chgL L c) cs
/-- the leases behind a list of changes -/
def applyL (L : List Ls) (cs : List Ch) : List Ls := if applyE L cs = 0 then applyG L cs else L
def Apart (x y : Ls) : Prop := meetL x y = false ∧ ¬ (bndB x = true ∧ bndB y = true ∧ ownB x y = true)
structure GoodL (L : List Ls) : Prop where
  ok : ∀ x ∈ L, x.ok ∧ leaseS x = true
  apart : L.Pairwise Apart
  size : L.length ≤ 1024
abbrev SrtL (L : List Ls) : Prop := L.Pairwise (fun x y => cmpL x y < 0)
structure TabL (L : List Ls) : Prop where
  good : GoodL L
  srt : SrtL L

theorem cmpL_neg (x y : Ls) : cmpL y x = -cmpL x y := compare_neg ..
theorem cmpL_zero {x y : Ls} : cmpL x y = 0 ↔ keyB x y = true := by unfold cmpL keyB; rw [compare_zero, decide_eq_true_iff]
theorem keyB_comm (x y : Ls) : keyB x y = keyB y x := by
  unfold keyB; rw [Bool.eq_iff_iff, decide_eq_true_iff, decide_eq_true_iff]
  exact ⟨fun ⟨a, b, c⟩ => ⟨a.symm, b.symm, c.symm⟩, fun ⟨a, b, c⟩ => ⟨a.symm, b.symm, c.symm⟩⟩
theorem keyB_self (x : Ls) : keyB x x = true := by unfold keyB; exact decide_eq_true ⟨rfl, rfl, rfl⟩
theorem keyB_trans {x y z : Ls} (h : keyB x y = true) (k : keyB y z = true) : keyB x z = true := by
  unfold keyB at *; rw [decide_eq_true_iff] at *
  exact ⟨h.1.trans k.1, h.2.1.trans k.2.1, h.2.2.trans k.2.2⟩
theorem keyB_right {x y : Ls} (h : keyB x y = true) (z : Ls) : keyB z x = keyB z y := by
  rw [Bool.eq_iff_iff]; exact ⟨fun k => keyB_trans k h, fun k => keyB_trans k (by rw [keyB_comm]; exact h)⟩
theorem cmpL_trans {x y z : Ls} (h : cmpL x y < 0) (k : cmpL y z < 0) : cmpL x z < 0 := by
  have a := compare_trans (k1 := x.kind) (p1 := x.p) (n1 := x.n) (show cmpL x y ≤ 0 by omega) (show cmpL y z ≤ 0 by omega)
  have a' : cmpL x z ≤ 0 := a
  by_cases e : cmpL x z = 0
  · have e2 : keyB z x = true := by rw [keyB_comm]; exact cmpL_zero.1 e
    have : cmpL y x = cmpL y z := by
      unfold cmpL
      unfold keyB at e2; rw [decide_eq_true_iff] at e2
      rw [e2.1, e2.2.1, e2.2.2]
    have := cmpL_neg x y
    omega
  · omega
theorem meetL_comm (x y : Ls) : meetL x y = meetL y x := meet_comm ..
theorem ownB_comm (x y : Ls) : ownB x y = ownB y x := by
  unfold ownB; rw [Bool.eq_iff_iff, decide_eq_true_iff, decide_eq_true_iff]
  exact ⟨fun ⟨a, b, c⟩ => ⟨a.symm, b.symm, c.symm⟩, fun ⟨a, b, c⟩ => ⟨a.symm, b.symm, c.symm⟩⟩
theorem meetL_key {x y : Ls} (h : keyB x y = true) (z : Ls) : meetL x z = meetL y z := by
  unfold keyB at h; rw [decide_eq_true_iff] at h
  unfold meetL; rw [h.1, h.2.1, h.2.2]
theorem lease_right {x : Ls} (h : leaseS x = true) : rightS x.kind x.p x.n = true := by
  unfold leaseS at h; simp only [Bool.and_eq_true] at h; exact h.1
theorem meetL_self {x : Ls} (h : leaseS x = true) : meetL x x = true := by unfold meetL; rw [meet_self]; exact lease_right h
theorem Apart.symm {x y : Ls} (h : Apart x y) : Apart y x := ⟨by rw [meetL_comm]; exact h.1, fun ⟨a, b, c⟩ => h.2 ⟨b, a, by rw [ownB_comm]; exact c⟩⟩
theorem Apart.key {x y : Ls} (h : Apart x y) (hx : leaseS x = true) : keyB x y = false := by
  cases e : keyB x y
  · rfl
  · have := meetL_key e x
    rw [meetL_self hx, meetL_comm, h.1] at this; cases this

theorem putL_perm (x : Ls) : ∀ L, (putL x L).Perm (x :: L)
  | [] => .refl _
  | y :: r => by
    unfold putL; split
    · exact .refl _
    · exact ((putL_perm x r).cons y).trans (.swap ..)
theorem mem_putL {x y : Ls} {L : List Ls} : y ∈ putL x L ↔ y = x ∨ y ∈ L := by rw [(putL_perm x L).mem_iff]; simp
theorem putL_srt {x : Ls} : ∀ {L : List Ls}, SrtL L → (∀ y ∈ L, keyB y x = false) → SrtL (putL x L)
  | [], _, _ => by simp [putL]
  | y :: r, h, hk => by
    obtain ⟨h1, h2⟩ := List.pairwise_cons.1 h
    unfold putL; split
    · rename_i hc
      refine List.pairwise_cons.2 ⟨fun z hz => ?_, h⟩
      rcases List.mem_cons.1 hz with rfl | hz
      · exact hc
      · exact cmpL_trans hc (h1 z hz)
    · rename_i hc
      refine List.pairwise_cons.2 ⟨fun z hz => ?_, putL_srt h2 (fun z hz => hk z (List.mem_cons_of_mem _ hz))⟩
      rcases mem_putL.1 hz with rfl | hz
      · have a := hk y List.mem_cons_self
        have b : cmpL y z ≠ 0 := fun e => by rw [cmpL_zero.1 e] at a; cases a
        have := cmpL_neg z y
        omega
      · exact h1 z hz
/-- lists in strict order with the same members are one -/
theorem srt_unique {lt : Ls → Ls → Prop} (ht : ∀ {x y}, lt x y → lt y x → False) : ∀ {L M : List Ls}, L.Perm M → L.Pairwise lt → M.Pairwise lt → L = M
  | [], M, h, _, _ => (List.nil_perm.1 h).symm
  | x :: r, [], h, _, _ => by have := h.length_eq; simp at this
  | x :: r, y :: s, h, h1, h2 => by
    obtain ⟨a1, a2⟩ := List.pairwise_cons.1 h1
    obtain ⟨b1, b2⟩ := List.pairwise_cons.1 h2
    have e : x = y := by
      have hx : x ∈ y :: s := h.mem_iff.1 List.mem_cons_self
      have hy : y ∈ x :: r := h.mem_iff.2 List.mem_cons_self
      rcases List.mem_cons.1 hx with e | hx
      · exact e
      · rcases List.mem_cons.1 hy with e | hy
        · exact e.symm
        · exact (ht (a1 y hy) (b1 x hx)).elim
    subst e
    rw [srt_unique ht ((List.perm_cons x).1 h) a2 b2]
theorem cmpL_asymm {x y : Ls} (h : cmpL x y < 0) (k : cmpL y x < 0) : False := by have := cmpL_neg x y; omega
theorem srtL_unique {L M : List Ls} (h : L.Perm M) (h1 : SrtL L) (h2 : SrtL M) : L = M := srt_unique cmpL_asymm h h1 h2

theorem apart_perm {L M : List Ls} (h : L.Perm M) : L.Pairwise Apart ↔ M.Pairwise Apart := h.pairwise_iff (fun h => h.symm)
theorem GoodL.perm {L M : List Ls} (h : GoodL L) (p : L.Perm M) : GoodL M :=
  ⟨fun x hx => h.ok x (p.mem_iff.2 hx), (apart_perm p).1 h.apart, by rw [← p.length_eq]; exact h.size⟩
theorem GoodL.sub {L M : List Ls} (h : GoodL L) (s : M.Sublist L) : GoodL M :=
  ⟨fun x hx => h.ok x (s.subset hx), h.apart.sublist s, Nat.le_trans s.length_le h.size⟩
theorem GoodL.nil : GoodL [] := ⟨by simp, .nil, by simp⟩
theorem TabL.nil : TabL [] := ⟨.nil, .nil⟩
theorem restL_sub (L : List Ls) (x : Ls) : (restL L x).Sublist L := List.filter_sublist
theorem mem_restL {L : List Ls} {x y : Ls} : y ∈ restL L x ↔ y ∈ L ∧ keyB y x = false := by
  unfold restL; rw [List.mem_filter]; simp
theorem restL_none {L : List Ls} {x : Ls} (h : thereL L x = false) : restL L x = L := by
  unfold restL; rw [List.filter_eq_self]
  intro y hy
  unfold thereL at h
  have := List.any_eq_false.1 h y hy
  simpa using this
theorem restL_key {x y : Ls} (h : keyB x y = true) (L : List Ls) : restL L x = restL L y := by
  unfold restL; congr 1; funext z; rw [keyB_right h]
theorem restL_perm {L M : List Ls} (h : L.Perm M) (x : Ls) : (restL L x).Perm (restL M x) := h.filter _
theorem thereL_perm {L M : List Ls} (h : L.Perm M) (x : Ls) : thereL L x = thereL M x := by
  unfold thereL; rw [Bool.eq_iff_iff, List.any_eq_true, List.any_eq_true]
  exact ⟨fun ⟨y, a, b⟩ => ⟨y, h.mem_iff.1 a, b⟩, fun ⟨y, a, b⟩ => ⟨y, h.mem_iff.2 a, b⟩⟩
theorem TabL.rest {L : List Ls} (h : TabL L) (x : Ls) : TabL (restL L x) := ⟨h.good.sub (restL_sub L x), h.srt.sublist (restL_sub L x)⟩
/-- of the leases with a key there is one -/
theorem rest_one : ∀ {L : List Ls}, GoodL L → ∀ {y : Ls}, y ∈ L → L.Perm (y :: restL L y)
  | x :: r, h, y, hy => by
    obtain ⟨h1, h2⟩ := List.pairwise_cons.1 h.apart
    have hg : GoodL r := h.sub (List.sublist_cons_self ..)
    rcases List.mem_cons.1 hy with rfl | hy
    · have e : restL (y :: r) y = r := by
        unfold restL; rw [List.filter_cons_of_neg (by simp [keyB_self])]
        rw [List.filter_eq_self]
        intro z hz
        have := (h1 z hz).key (h.ok y List.mem_cons_self).2
        rw [keyB_comm] at this
        simp [this]
      rw [e]
    · have e : restL (x :: r) y = x :: restL r y := by
        unfold restL
        rw [List.filter_cons_of_pos]
        have := (h1 y hy).key (h.ok x List.mem_cons_self).2
        simp [this]
      rw [e]
      exact ((rest_one hg hy).cons x).trans (.swap ..)
theorem key_unique {L : List Ls} (h : GoodL L) {x y : Ls} (hx : x ∈ L) (hy : y ∈ L) (k : keyB x y = true) : x = y := by
  have p := rest_one h hy
  rcases List.mem_cons.1 (p.mem_iff.1 hx) with e | e
  · exact e
  · have := (mem_restL.1 e).2
    rw [k] at this; cases this
theorem good_cons {L : List Ls} {x : Ls} (h : GoodL L) (hx : x.ok ∧ leaseS x = true) (ha : ∀ y ∈ L, Apart x y) (hn : L.length < 1024) : GoodL (x :: L) :=
  ⟨fun y hy => by rcases List.mem_cons.1 hy with rfl | hy; · exact hx
                  · exact h.ok y hy, List.pairwise_cons.2 ⟨ha, h.apart⟩, by simp; omega⟩
theorem any_no {α : Type} {l : List α} {p : α → Bool} (h : l.any p = false) {x : α} (hx : x ∈ l) : p x = false := by
  have := List.any_eq_false.1 h x hx; simpa using this
theorem err_zero {L : List Ls} {c : Ch} (h : errL L c = 0) : changeS c = true ∧ (c.gone = true → thereL L c.l = true) ∧ (c.gone = false → takenL (restL L c.l) c.l = false ∧ clashL (restL L c.l) c.l = false ∧ (restL L c.l).length < 1024) := by
  unfold errL at h
  by_cases h1 : changeS c = false
  · rw [if_pos h1] at h; cases h
  rw [if_neg h1] at h
  have h1 : changeS c = true := by simpa using h1
  refine ⟨h1, fun hg => ?_, fun hg => ?_⟩
  · rw [if_pos hg] at h
    by_cases h2 : thereL L c.l = true
    · exact h2
    · rw [if_neg h2] at h; cases h
  · rw [if_neg (by rw [hg]; simp)] at h
    by_cases h2 : takenL (restL L c.l) c.l = true
    · rw [if_pos h2] at h; cases h
    rw [if_neg h2] at h
    by_cases h3 : clashL (restL L c.l) c.l = true
    · rw [if_pos h3] at h; cases h
    rw [if_neg h3] at h
    by_cases h4 : 1024 ≤ (restL L c.l).length
    · rw [if_pos h4] at h; cases h
    exact ⟨by simpa using h2, by simpa using h3, by omega⟩
theorem change_lease {c : Ch} (h : changeS c = true) (hg : c.gone = false) : leaseS c.l = true := by
  unfold changeS at h; rw [hg] at h; simpa using h
theorem change_right {c : Ch} (h : changeS c = true) : rightS c.l.kind c.l.p c.l.n = true := by
  unfold changeS at h
  split at h
  · rw [Bool.and_eq_true] at h; exact h.1
  · exact lease_right h
/-- what a change that can be made leaves is a table's leases -/
theorem chg_tab {L : List Ls} {c : Ch} (h : TabL L) (ho : c.l.ok) (he : errL L c = 0) : TabL (chgL L c) := by
  obtain ⟨h1, _, h3⟩ := err_zero he
  have hr := h.rest c.l
  unfold chgL
  by_cases hg : c.gone = true
  · rw [if_pos hg]; exact hr
  · rw [if_neg hg]
    obtain ⟨a, b, d⟩ := h3 (by simpa using hg)
    refine ⟨(good_cons hr.good ⟨ho, change_lease h1 (by simpa using hg)⟩ (fun y hy => ⟨any_no b hy, fun ⟨e1, e2, e3⟩ => ?_⟩) d).perm (putL_perm ..).symm, putL_srt hr.srt (fun y hy => (mem_restL.1 hy).2)⟩
    have := any_no a hy
    simp only [e1, e2, e3] at this; cases this
/-- the change that takes another one back -/
def backL (L : List Ls) (c : Ch) : Ch := match L.find? (fun y => keyB y c.l) with | some y => ⟨false, y⟩ | none => ⟨true, ⟨c.l.kind, c.l.p, c.l.n, 0, ⟨#[]⟩, 0, 0⟩⟩
theorem find_there {L : List Ls} {x : Ls} (h : thereL L x = true) : ∃ y, L.find? (fun y => keyB y x) = some y ∧ y ∈ L ∧ keyB y x = true := by
  unfold thereL at h
  obtain ⟨z, hz, hk⟩ := List.any_eq_true.1 h
  cases e : L.find? (fun y => keyB y x) with
  | none => have := List.find?_eq_none.1 e z hz; rw [hk] at this; simp at this
  | some y => exact ⟨y, rfl, List.mem_of_find?_eq_some e, by have := List.find?_some e; simpa using this⟩
theorem find_not {L : List Ls} {x : Ls} (h : thereL L x = false) : L.find? (fun y => keyB y x) = none := by
  rw [List.find?_eq_none]; intro y hy; have := any_no h hy; rw [this]; simp
theorem rest_put {L : List Ls} {x y : Ls} (hx : keyB x y = true) (hL : ∀ z ∈ L, keyB z y = false) : (restL (putL x L) y).Perm L := by
  have := restL_perm (putL_perm x L) y
  have e : restL (x :: L) y = L := by
    unfold restL; rw [List.filter_cons_of_neg (by simp [hx]), List.filter_eq_self]
    intro z hz; simp [hL z hz]
  rw [e] at this; exact this
theorem back_there {L : List Ls} {c : Ch} (h : TabL L) {y : Ls} (hy : y ∈ L) (hk : keyB y c.l = true) : chgL (chgL L c) ⟨false, y⟩ = L := by
  have hkr : restL L c.l = restL L y := (restL_key hk L).symm
  have hr := h.rest y
  have hno : ∀ z ∈ restL L y, keyB z y = false := fun z hz => (mem_restL.1 hz).2
  have hp : (restL (chgL L c) y).Perm (restL L y) := by
    unfold chgL
    by_cases hg : c.gone = true
    · rw [if_pos hg, hkr]
      have : restL (restL L y) y = restL L y := by
        rw [restL, List.filter_eq_self]; intro z hz; simp [hno z hz]
      rw [this]
    · rw [if_neg hg, hkr]
      exact rest_put (by rw [keyB_comm]; exact hk) hno
  unfold chgL
  rw [if_neg (by simp)]
  show putL y (restL (chgL L c) y) = L
  have hs : SrtL (restL (chgL L c) y) := by
    unfold chgL
    by_cases hg : c.gone = true
    · rw [if_pos hg]; exact ((h.rest _).srt).sublist (restL_sub _ _)
    · rw [if_neg hg]; exact (putL_srt (h.rest _).srt (fun z hz => (mem_restL.1 hz).2)).sublist (restL_sub _ _)
  refine srtL_unique (((putL_perm ..).trans (hp.cons y)).trans (rest_one h.good hy).symm) (putL_srt hs (fun z hz => (mem_restL.1 hz).2)) h.srt
theorem back_chg {L : List Ls} {c : Ch} (h : TabL L) (he : errL L c = 0) : chgL (chgL L c) (backL L c) = L := by
  obtain ⟨_, h2, _⟩ := err_zero he
  by_cases ht : thereL L c.l = true
  · obtain ⟨y, hf, hy, hk⟩ := find_there ht
    unfold backL; rw [hf]
    exact back_there h hy hk
  · have ht : thereL L c.l = false := by simpa using ht
    have hg : c.gone = false := by
      cases e : c.gone
      · rfl
      · have := h2 e; rw [ht] at this; cases this
    unfold backL; rw [find_not ht]
    unfold chgL
    rw [if_pos rfl, if_neg (by rw [hg]; simp), restL_none ht]
    have hk : keyB c.l ⟨c.l.kind, c.l.p, c.l.n, 0, ⟨#[]⟩, 0, 0⟩ = true := by unfold keyB; exact decide_eq_true ⟨rfl, rfl, rfl⟩
    have hno : ∀ z ∈ L, keyB z ⟨c.l.kind, c.l.p, c.l.n, 0, ⟨#[]⟩, 0, 0⟩ = false := fun z hz => by rw [← keyB_right hk]; exact any_no ht hz
    refine srtL_unique (rest_put hk hno) ?_ h.srt
    exact (putL_srt h.srt (fun z hz => any_no ht hz)).sublist (restL_sub _ _)
theorem back_ok {L : List Ls} {c : Ch} (h : TabL L) (ho : c.l.ok) : (backL L c).l.ok ∧ ((backL L c).gone = false → leaseS (backL L c).l = true) := by
  unfold backL
  cases e : L.find? (fun y => keyB y c.l) with
  | none => exact ⟨⟨ho.kind, ho.p, ho.n, (by unfold I64; decide : I64 0), (by decide : (⟨#[]⟩ : ByteArray).size ≤ maxLen), (by decide : 0 < 4294967296), (by unfold I64; decide : I64 0)⟩, fun h => by cases h⟩
  | some y => exact ⟨(h.good.ok y (List.mem_of_find?_eq_some e)).1, fun _ => (h.good.ok y (List.mem_of_find?_eq_some e)).2⟩
/-- a change's error as the program finds it -/
def chkL (L : List Ls) (c : Ch) : Nat :=
  if changeS c = false then 80
  else if c.gone = true then (if thereL L c.l = true then 0 else 62)
  else if L.any (fun y => bndB y && ownB c.l y && !keyB y c.l) = true then 90
  else if thereL L c.l = true then 0
  else if clashL L c.l = true then 91
  else if 1024 ≤ L.length then 63 else 0
theorem bound_cl {x : Ls} (h : leaseS x = true) : (x.st = 1 → x.cl.size ≠ 0) ∧ (x.st ≠ 1 → x.cl.size = 0) := by
  unfold leaseS at h
  simp only [Bool.and_eq_true] at h
  have h := h.2.2
  unfold stateS at h
  refine ⟨fun e => ?_, fun e => ?_⟩
  · rw [if_pos e, decide_eq_true_iff] at h; exact h.1
  · rw [if_neg e] at h
    split at h
    · rw [decide_eq_true_iff] at h; exact h.1
    · cases h
theorem taken_eq {L : List Ls} {x : Ls} (h : GoodL L) (hx : leaseS x = true) : L.any (fun y => bndB y && ownB x y && !keyB y x) = takenL (restL L x) x := by
  unfold takenL
  rw [Bool.eq_iff_iff, List.any_eq_true, List.any_eq_true]
  constructor
  · rintro ⟨y, hy, hb⟩
    simp only [Bool.and_eq_true, Bool.not_eq_true'] at hb
    obtain ⟨⟨b1, b2⟩, b3⟩ := hb
    refine ⟨y, mem_restL.2 ⟨hy, b3⟩, ?_⟩
    have hx1 : bndB x = true := by
      unfold bndB; rw [decide_eq_true_iff]
      refine Classical.byContradiction fun hn => ?_
      have a := (bound_cl hx).2 hn
      unfold bndB at b1; rw [decide_eq_true_iff] at b1
      have b := (bound_cl (h.ok y hy).2).1 b1
      unfold ownB at b2; rw [decide_eq_true_iff] at b2
      rw [← b2.2.1] at b; exact b a
    simp [hx1, b1, b2]
  · rintro ⟨y, hy, hb⟩
    simp only [Bool.and_eq_true] at hb
    obtain ⟨hy, hk⟩ := mem_restL.1 hy
    exact ⟨y, hy, by simp [hb.1.2, hb.2, hk]⟩
theorem chk_eq {L : List Ls} {c : Ch} (h : TabL L) : chkL L c = errL L c := by
  unfold chkL errL
  by_cases h1 : changeS c = false
  · rw [if_pos h1, if_pos h1]
  rw [if_neg h1, if_neg h1]
  have h1 : changeS c = true := by simpa using h1
  by_cases hg : c.gone = true
  · rw [if_pos hg, if_pos hg]
  rw [if_neg hg, if_neg hg, taken_eq h.good (change_lease h1 (by simpa using hg))]
  by_cases h2 : takenL (restL L c.l) c.l = true
  · rw [if_pos h2, if_pos h2]
  rw [if_neg h2, if_neg h2]
  by_cases ht : thereL L c.l = true
  · rw [if_pos ht]
    obtain ⟨y, _, hy, hk⟩ := find_there ht
    have hp := rest_one h.good hy
    have e := restL_key hk L
    rw [e] at hp
    have hcl : clashL (restL L c.l) c.l = false := by
      unfold clashL; rw [List.any_eq_false]
      intro z hz
      have ha := (List.pairwise_cons.1 ((apart_perm hp).1 h.good.apart)).1 z hz
      rw [← meetL_key hk, ha.1]; simp
    have hl : (restL L c.l).length < 1024 := by
      have := hp.length_eq; have := h.good.size; simp at *; omega
    rw [hcl, if_neg (by simp), if_neg (by omega)]
  · rw [if_neg ht, restL_none (by simpa using ht)]
theorem apply_tab : ∀ (cs : List Ch) {L : List Ls}, TabL L → (∀ c ∈ cs, c.l.ok) → applyE L cs = 0 → TabL (applyG L cs)
  | [], L, h, _, _ => h
  | c :: cs, L, h, ho, he => by
    unfold applyE at he
    by_cases h0 : errL L c = 0
    · rw [if_pos h0] at he
      exact apply_tab cs (chg_tab h (ho c List.mem_cons_self) h0) (fun x hx => ho x (List.mem_cons_of_mem _ hx)) he
    · rw [if_neg h0] at he; exact absurd he h0
theorem applyL_tab {cs : List Ch} {L : List Ls} (h : TabL L) (ho : ∀ c ∈ cs, c.l.ok) : TabL (applyL L cs) := by
  unfold applyL; split
  · exact apply_tab cs h ho (by assumption)
  · exact h
end Go.Proofs.Ytpldkgollhbolaa
