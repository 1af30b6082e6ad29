/-
  What TableViews' walk wants: what a table tells of one of its leases, by values that are letters; two leases compared. Condition: the table is one in memory.
-/
import Derived.Test.YtpldkgollhbolaaGreatTbKp
namespace Go.Proofs.YtpldkgollhbolaaGreat
open Go.RowKit Go.Joins Go.Maps

variable {w w' V W W' : World} {t km om : Nat} {O : Nat → Prop} {v : Value} {E : List En} {L : List Ls}
/-! ### mathematics -/
theorem apart_ne (h : GoodL L) {x y : Ls} (hx : x ∈ L) (hy : y ∈ L) (hne : y ≠ x) : Apart x y := by
  have p := rest_one h hx
  rcases List.mem_cons.1 (p.mem_iff.1 hy) with e | e
  · exact absurd e hne
  · exact (List.pairwise_cons.1 ((apart_perm p).1 h.apart)).1 y e
theorem find_mem (h : GoodL L) {x : Ls} (hx : x ∈ L) : findL L x.kind x.p x.n = some x := by
  unfold findL
  cases e : L.find? (fun y => decide (y.kind = x.kind ∧ y.p = x.p ∧ y.n = x.n)) with
  | none =>
    have := List.find?_eq_none.1 e x hx
    simp at this
  | some y =>
    have hy := List.mem_of_find?_eq_some e
    have hk := List.find?_some e
    rw [key_unique h hy hx hk]
theorem of_mem (h : GoodL L) {x : Ls} (hx : x ∈ L) (hs : x.st = 1) : ofL L x.kind x.cl x.ia = some x := by
  unfold ofL
  cases e : L.find? (fun y => decide (y.st = 1 ∧ y.kind = x.kind ∧ y.cl = x.cl ∧ y.ia = x.ia)) with
  | none =>
    have := List.find?_eq_none.1 e x hx
    simp [hs] at this
  | some y =>
    have hy := List.mem_of_find?_eq_some e
    have hk0 := List.find?_some e
    have hk := of_decide_eq_true hk0
    refine congrArg some (Classical.byContradiction fun hne => ?_)
    exact (apart_ne h hx hy hne).2 ⟨decide_eq_true hs, decide_eq_true hk.1, decide_eq_true ⟨hk.2.1.symm, hk.2.2.1.symm, hk.2.2.2.symm⟩⟩
theorem srt_single {M : List Ls} (h : SrtL M) {x : Ls} (hx : x ∈ M) (ha : ∀ y ∈ M, y = x) : M = [x] := by
  cases M with
  | nil => cases hx
  | cons a r =>
    have e := ha a List.mem_cons_self
    subst e
    cases r with
    | nil => rfl
    | cons z r =>
      have e2 := ha z (List.mem_cons_of_mem _ List.mem_cons_self)
      subst e2
      have := (List.pairwise_cons.1 h).1 z List.mem_cons_self
      have e3 := cmpL_neg z z
      omega
theorem meets_mem (h : TabL L) {x : Ls} (hx : x ∈ L) : L.filter (meetsB x.kind x.p x.n) = [x] := by
  refine srt_single (h.srt.sublist List.filter_sublist) (List.mem_filter.2 ⟨hx, ?_⟩) (fun y hy => ?_)
  · exact meetL_self (h.good.ok x hx).2
  · obtain ⟨h1, h2⟩ := List.mem_filter.1 hy
    refine Classical.byContradiction fun hne => ?_
    have := (apart_ne h.good hx h1 hne).1
    have h2 : meetL x y = true := h2
    rw [this] at h2; cases h2
/-- two leases are the same -/
def eqB (y x : Ls) : Bool := (y.kind == x.kind) && (((((hi y.p : Nat) : Int) == ((hi x.p : Nat) : Int)) && (((lo y.p : Nat) : Int) == ((lo x.p : Nat) : Int))) && (y.n == x.n)) && (y.st == x.st) && (y.cl.toList == x.cl.toList) && (((y.ia : Nat) : Int) == ((x.ia : Nat) : Int)) && (y.un == x.un)
theorem eqB_iff {y x : Ls} : eqB y x = true ↔ y = x := by
  unfold eqB
  rw [bytes_ne]
  simp only [Bool.and_eq_true, beq_iff_eq, decide_eq_true_eq]
  constructor
  · rintro ⟨⟨⟨⟨⟨a, ⟨b, c⟩, d⟩, e⟩, f⟩, g⟩, h⟩
    have hp : y.p = x.p := hilo.2 ⟨by omega, by omega⟩
    have hi : y.ia = x.ia := by omega
    cases y; cases x
    simp only at *
    subst a hp d e f hi h
    rfl
  · rintro rfl; exact ⟨⟨⟨⟨⟨rfl, ⟨rfl, rfl⟩, rfl⟩, rfl⟩, rfl⟩, rfl⟩, rfl⟩
def cntV (M : List Ls) (x : Ls) (k : Nat) : Nat := ((M.take k).filter (fun y => eqB y x)).length
theorem cntV_step {M : List Ls} {x y : Ls} {k : Nat} (hy : M[k]? = some y) : cntV M x (k + 1) = cntV M x k + (if eqB y x then 1 else 0) := by
  unfold cntV
  rw [List.take_add_one, hy, List.filter_append, List.length_append]
  congr 1
  simp only [Option.toList_some, List.filter_cons, List.filter_nil]
  split <;> rfl
theorem cntV_all (h : TabL L) {x : Ls} (hx : x ∈ L) : cntV (L.filter (clientB x.cl)) x (L.filter (clientB x.cl)).length = if x.st = 1 then 1 else 0 := by
  unfold cntV
  rw [List.take_length]
  by_cases hs : x.st = 1
  · rw [if_pos hs]
    have : (L.filter (clientB x.cl)).filter (fun y => eqB y x) = [x] := by
      refine srt_single ((h.srt.sublist List.filter_sublist).sublist List.filter_sublist) (List.mem_filter.2 ⟨List.mem_filter.2 ⟨hx, ?_⟩, eqB_iff.2 rfl⟩) (fun y hy => eqB_iff.1 (List.mem_filter.1 hy).2)
      unfold clientB; exact decide_eq_true ⟨hs, rfl⟩
    rw [this]; rfl
  · rw [if_neg hs]
    have : (L.filter (clientB x.cl)).filter (fun y => eqB y x) = [] := by
      rw [List.filter_eq_nil_iff]
      intro y hy he
      have e := eqB_iff.1 he
      subst e
      have := (List.mem_filter.1 hy).2
      unfold clientB at this
      exact hs (of_decide_eq_true this).1
    rw [this]; rfl
def dueN (L : List Ls) (now : Int) (i : Nat) : Nat := ((L.take i).filter (dueB now)).length
theorem dueN_step {now : Int} {x : Ls} {i : Nat} (hx : L[i]? = some x) : dueN L now (i + 1) = dueN L now i + (if x.un ≤ now then 1 else 0) := by
  unfold dueN
  rw [List.take_add_one, hx, List.filter_append, List.length_append]
  congr 1
  simp only [Option.toList_some, List.filter_cons, List.filter_nil]
  by_cases h : x.un ≤ now
  · have hd : dueB now x = true := decide_eq_true h
    rw [if_pos h, if_pos hd]; rfl
  · have hd : ¬ dueB now x = true := fun e => h (of_decide_eq_true e)
    rw [if_neg h, if_neg hd]; rfl
theorem dueN_le (now : Int) (i : Nat) : dueN L now i ≤ i := by
  unfold dueN
  exact Nat.le_trans (List.length_filter_le _ _) (by rw [List.length_take]; omega)
theorem nextL_snoc {l : List Ls} (hl : l ≠ []) (y : Ls) : nextL (l ++ [y]) = if y.un < nextL l then y.un else nextL l := by
  cases l with
  | nil => exact absurd rfl hl
  | cons x r => unfold nextL; rw [List.cons_append]; simp only [List.foldl_append, List.foldl_cons, List.foldl_nil]
theorem least_step {x : Ls} {i : Nat} (hx : L[i]? = some x) : nextL (L.take (i + 1)) = if i = 0 then x.un else if x.un < nextL (L.take i) then x.un else nextL (L.take i) := by
  rw [List.take_add_one, hx]
  cases i with
  | zero => simp [nextL]
  | succ i =>
    have hl := (List.getElem?_eq_some_iff.1 hx).1
    have hne : L.take (i + 1) ≠ [] := fun e => by
      have h0 : (L.take (i + 1)).length = 0 := by rw [e]; rfl
      rw [List.length_take] at h0
      omega
    rw [if_neg (by omega)]
    exact nextL_snoc hne x
/-! ### two leases compared -/
set_option maxRecDepth 100000 in
theorem eql_lease (k h l n s : Int) (c : ByteArray) (i u k2 h2 l2 n2 s2 : Int) (c2 : ByteArray) (i2 u2 : Int) (w : World) :
    (Op.equalIn 10000 30 (.agg #[.int .i64 k, .int .u64 h, .int .u64 l, .int .i64 n, .int .i64 s, .string c, .int .u32 i, .int .i64 u]) (.agg #[.int .i64 k2, .int .u64 h2, .int .u64 l2, .int .i64 n2, .int .i64 s2, .string c2, .int .u32 i2, .int .i64 u2])).run Tryz.prog w =
      .ok ((k == k2) && (((h == h2) && (l == l2)) && (n == n2)) && (s == s2) && (c.toList == c2.toList) && (i == i2) && (u == u2)) w := by
  rw [show (10000 : Nat) = 9996 + 1 + 1 + 1 + 1 from rfl, run_equalIn_agg w _ 30 _ _ (by kernel_rfl) (by kernel_rfl)]
  simp only [Program.fieldsOf, Tryz.underlying30]
  have p0 : ∀ (k h l n s : Int) (c : ByteArray) (i u : Int) w, (part 3 #[.int .i64 k, .int .u64 h, .int .u64 l, .int .i64 n, .int .i64 s, .string c, .int .u32 i, .int .i64 u] 0).run Tryz.prog w = .ok (.int .i64 k) w := fun _ _ _ _ _ _ _ _ _ => by kernel_rfl
  have p1 : ∀ (k h l n s : Int) (c : ByteArray) (i u : Int) w, (part 27 #[.int .i64 k, .int .u64 h, .int .u64 l, .int .i64 n, .int .i64 s, .string c, .int .u32 i, .int .i64 u] 1).run Tryz.prog w = .ok (.agg #[.int .u64 h, .int .u64 l, .int .i64 n]) w := fun _ _ _ _ _ _ _ _ _ => by kernel_rfl
  have p2 : ∀ (k h l n s : Int) (c : ByteArray) (i u : Int) w, (part 3 #[.int .i64 k, .int .u64 h, .int .u64 l, .int .i64 n, .int .i64 s, .string c, .int .u32 i, .int .i64 u] 4).run Tryz.prog w = .ok (.int .i64 s) w := fun _ _ _ _ _ _ _ _ _ => by kernel_rfl
  have p3 : ∀ (k h l n s : Int) (c : ByteArray) (i u : Int) w, (part 9 #[.int .i64 k, .int .u64 h, .int .u64 l, .int .i64 n, .int .i64 s, .string c, .int .u32 i, .int .i64 u] 5).run Tryz.prog w = .ok (.string c) w := fun _ _ _ _ _ _ _ _ _ => by kernel_rfl
  have p4 : ∀ (k h l n s : Int) (c : ByteArray) (i u : Int) w, (part 28 #[.int .i64 k, .int .u64 h, .int .u64 l, .int .i64 n, .int .i64 s, .string c, .int .u32 i, .int .i64 u] 6).run Tryz.prog w = .ok (.int .u32 i) w := fun _ _ _ _ _ _ _ _ _ => by kernel_rfl
  have p5 : ∀ (k h l n s : Int) (c : ByteArray) (i u : Int) w, (part 3 #[.int .i64 k, .int .u64 h, .int .u64 l, .int .i64 n, .int .i64 s, .string c, .int .u32 i, .int .i64 u] 7).run Tryz.prog w = .ok (.int .i64 u) w := fun _ _ _ _ _ _ _ _ _ => by kernel_rfl
  have q0 : ∀ (a b : Int) w, (Op.equalIn (9996 + 1 + 1 + 1) 3 (.int .i64 a) (.int .i64 b)).run Tryz.prog w = .ok (a == b) w := fun _ _ _ => by kernel_rfl
  have q1 : ∀ (a b : Int) w, (Op.equalIn (9996 + 1 + 1 + 1) 28 (.int .u32 a) (.int .u32 b)).run Tryz.prog w = .ok (a == b) w := fun _ _ _ => by kernel_rfl
  have q2 : ∀ (a b : ByteArray) w, (Op.equalIn (9996 + 1 + 1 + 1) 9 (.string a) (.string b)).run Tryz.prog w = .ok (a.toList == b.toList) w := fun a b w => run_equalIn_string w _ _ a b Tryz.underlying9
  simp only [Op.eqFields, Sem.run_bind, Sem.run_ite, p0, p1, p2, p3, p4, p5, q0, q1, q2, eq_prefix, Result.andThen_ok]
  generalize (((h == h2) && (l == l2)) && (n == n2)) = r1
  generalize (k == k2) = r0
  generalize (s == s2) = r2
  generalize (c.toList == c2.toList) = r3
  generalize (i == i2) = r4
  generalize (u == u2) = r5
  cases r0 <;> cases r1 <;> cases r2 <;> cases r3 <;> cases r4 <;> cases r5 <;> rfl
theorem eq_run (y x : Ls) (w : World) : (binOp .eql 30 (Lv y) (Lv x)).run Tryz.prog w = .ok (.bool (eqB y x)) w := by
  rw [run_eql_struct, eql_lease]
  rfl
theorem neq_run (y x : Ls) (w : World) : (binOp .neq 30 (Lv y) (Lv x)).run Tryz.prog w = .ok (.bool (!eqB y x)) w := by
  rw [run_neq_struct, eql_lease]
  rfl
end Go.Proofs.YtpldkgollhbolaaGreat
