/-
  The contract of a table's change, whole; keys that differ; the contracts of taken and Size. Conditions: the change's lease is one of its type; one that is put is sound and in nobody's way.
-/
import Derived.Test.YtpldkgollhbolaaTbC1
import Derived.Test.YtpldkgollhbolaaTbC2
import Derived.Test.YtpldkgollhbolaaTbC3
import Derived.Test.YtpldkgollhbolaaTbC4
import Derived.Test.YtpldkgollhbolaaLC
import Derived.Laws.StructEq
import Derived.Deep.RegionHeld3
namespace Go.Proofs.Ytpldkgollhbolaa
open Go.RowKit Go.Joins Go.Maps

variable {w w' W W' : World} {t km om : Nat} {O : Nat → Prop} {v : Value} {E : List En} {L : List Ls}
theorem tchange_any (h : TabE w t km om O v E) (hs : SrtL L) (hp : L.Perm (E.map (·.2))) {c : Ch} (ho : c.l.ok) (hg : c.gone = false → GoodL (c.l :: restL L c.l)) : Calls Try.prog 43 #[Pt t, Cv c] w (ChgPost w t km om O (chgL L c) (Cv (backL L c))) := by
  obtain ⟨gone, l⟩ := c
  cases e : L.find? (fun y => keyB y l) with
  | some y =>
    have hy := List.mem_of_find?_eq_some e
    have hk := List.find?_some e
    obtain ⟨g, hgE⟩ := mem_node hp hy
    obtain ⟨i, hi⟩ := List.mem_iff_getElem?.1 hgE
    have hb : ∀ b, backL L ⟨b, l⟩ = ⟨false, y⟩ := fun b => by unfold backL; rw [e]
    rw [hb]
    cases gone with
    | true => exact chg_yes_gone h hs hp ho hi hk
    | false => exact chg_yes_put h hs hp ho hi hk (hg rfl)
  | none =>
    have hk : ∀ x ∈ E, keyB x.2 l = false := fun x hx => by
      have := List.find?_eq_none.1 e x.2 (hp.mem_iff.2 (List.mem_map.2 ⟨x, hx, rfl⟩))
      simpa using this
    have hb : ∀ b, backL L ⟨b, l⟩ = ⟨true, ⟨l.kind, l.p, l.n, 0, ⟨#[]⟩, 0, 0⟩⟩ := fun b => by unfold backL; rw [e]
    rw [hb]
    cases gone with
    | true => exact chg_no_gone h hs hp ho hk
    | false => exact chg_no_put h hs hp ho hk (hg rfl)
theorem hilo {p q : Nat} : p = q ↔ hi p = hi q ∧ lo p = lo q := by
  unfold hi lo; omega
set_option maxRecDepth 100000 in
theorem eq_addr (d : Nat) (a b c e : Int) (w : World) : (Op.equalIn (d + 1 + 1) 31 (.agg #[.int .u64 a, .int .u64 b]) (.agg #[.int .u64 c, .int .u64 e])).run Try.prog w = .ok (a == c && b == e) w := by
  rw [run_equalIn_agg w _ 31 _ _ (by kernel_rfl) (by kernel_rfl)]
  simp only [Program.fieldsOf, Try.underlying31]
  go_simp
  by_cases h1 : a = c <;> by_cases h2 : b = e <;> simp [h1, h2]
theorem eq_prefix (d : Nat) (a b c e n m : Int) (w : World) : (Op.equalIn (d + 1 + 1 + 1) 33 (.agg #[.int .u64 a, .int .u64 b, .int .i64 n]) (.agg #[.int .u64 c, .int .u64 e, .int .i64 m])).run Try.prog w = .ok ((a == c && b == e) && n == m) w := by
  rw [run_equalIn_agg w _ 33 _ _ (by kernel_rfl) (by kernel_rfl)]
  simp only [Program.fieldsOf, Try.underlying33]
  have p1 : ∀ w, (part 31 #[.int .u64 a, .int .u64 b, .int .i64 n] 0).run Try.prog w = .ok (.agg #[.int .u64 a, .int .u64 b]) w := fun _ => by kernel_rfl
  have p2 : ∀ w, (part 31 #[.int .u64 c, .int .u64 e, .int .i64 m] 0).run Try.prog w = .ok (.agg #[.int .u64 c, .int .u64 e]) w := fun _ => by kernel_rfl
  have p3 : ∀ w, (part 3 #[.int .u64 a, .int .u64 b, .int .i64 n] 2).run Try.prog w = .ok (.int .i64 n) w := fun _ => by kernel_rfl
  have p4 : ∀ w, (part 3 #[.int .u64 c, .int .u64 e, .int .i64 m] 2).run Try.prog w = .ok (.int .i64 m) w := fun _ => by kernel_rfl
  have q : ∀ w, (Op.equalIn (d + 1 + 1) 3 (.int .i64 n) (.int .i64 m)).run Try.prog w = .ok (n == m) w := fun _ => by kernel_rfl
  simp only [Op.eqFields, Sem.run_bind, Sem.run_ite, p1, p2, p3, p4, q, eq_addr, Result.andThen_ok]
  generalize (a == c && b == e) = r1
  generalize (n == m) = r2
  cases r1 <;> cases r2 <;> rfl
theorem neq_key (x y : Ls) (w : World) : (binOp .neq 75 (KOf x) (KOf y)).run Try.prog w = .ok (.bool (!keyB x y)) w := by
  rw [run_neq_struct, show (10000 : Nat) = 9996 + 1 + 1 + 1 + 1 from rfl, run_equalIn_agg w _ 75 _ _ (by kernel_rfl) (by kernel_rfl)]
  simp only [Program.fieldsOf, Try.underlying75]
  have p1 : ∀ (z : Ls) w, (part 3 #[.int .i64 z.kind, .int .u64 (hi z.p : Nat), .int .u64 (lo z.p : Nat), .int .i64 z.n] 0).run Try.prog w = .ok (.int .i64 z.kind) w := fun _ _ => by kernel_rfl
  have p2 : ∀ (z : Ls) w, (part 33 #[.int .i64 z.kind, .int .u64 (hi z.p : Nat), .int .u64 (lo z.p : Nat), .int .i64 z.n] 1).run Try.prog w = .ok (.agg #[.int .u64 (hi z.p : Nat), .int .u64 (lo z.p : Nat), .int .i64 z.n]) w := fun _ _ => by kernel_rfl
  have q : ∀ w, (Op.equalIn (9996 + 1 + 1 + 1) 3 (.int .i64 x.kind) (.int .i64 y.kind)).run Try.prog w = .ok (x.kind == y.kind) w := fun _ => by kernel_rfl
  simp only [Op.eqFields, Sem.run_bind, Sem.run_ite, p1, p2, q, eq_prefix, Result.andThen_ok]
  have K : keyB x y = (x.kind == y.kind && (((hi x.p : Nat) : Int) == ((hi y.p : Nat) : Int) && ((lo x.p : Nat) : Int) == ((lo y.p : Nat) : Int) && x.n == y.n)) := by
    unfold keyB
    rw [Bool.eq_iff_iff, decide_eq_true_iff, hilo]
    simp only [Bool.and_eq_true, beq_iff_eq]
    omega
  rw [K]
  generalize (((hi x.p : Nat) : Int) == ((hi y.p : Nat) : Int) && ((lo x.p : Nat) : Int) == ((lo y.p : Nat) : Int) && x.n == y.n) = r1
  generalize (x.kind == y.kind) = r2
  cases r1 <;> cases r2 <;> rfl
theorem size_any (h : IsTab w t O L) : Calls Try.prog 20 #[Pt t] w (Same (.int .i64 (L.length : Int)) w) := by
  obtain ⟨km, om, v, E, h, hs, hp⟩ := h
  have hl : L.length = E.length := by rw [hp.length_eq, List.length_map]
  rw [hl]
  obtain ⟨c0, c1, c2⟩ := h.ends.tabs
  obtain ⟨g, cap, rfl⟩ := h.ends.frm
  clear h hs hp hl
  go_enter Try.func20, Try.ntmps20
  go_wp2
  go_ret
  exact ⟨rfl, rfl⟩
def takenB (L : List Ls) (l : Ls) : Bool := L.any (fun y => bndB y && ownB l y && !keyB y l)
theorem taken_some {y l : Ls} (hg : GoodL L) (e : ofL L l.kind l.cl l.ia = some y) : takenB L l = !keyB y l := by
  have hy := List.mem_of_find?_eq_some e
  have hb := List.find?_some e
  have hb := of_decide_eq_true hb
  unfold takenB
  rw [Bool.eq_iff_iff, List.any_eq_true]
  constructor
  · rintro ⟨z, hz, hc⟩
    simp only [Bool.and_eq_true] at hc
    obtain ⟨⟨h1, h2⟩, h3⟩ := hc
    have : z = y := by
      refine Classical.byContradiction fun hne => ?_
      have p := rest_one hg hy
      rcases List.mem_cons.1 (p.mem_iff.1 hz) with e2 | e2
      · exact hne e2
      · have ha := (List.pairwise_cons.1 ((apart_perm p).1 hg.apart)).1 z e2
        unfold ownB at h2; rw [decide_eq_true_iff] at h2
        refine ha.2 ⟨decide_eq_true hb.1, h1, decide_eq_true ⟨hb.2.1.trans h2.1, hb.2.2.1.trans h2.2.1, hb.2.2.2.trans h2.2.2⟩⟩
    rw [← this]; exact h3
  · intro hk
    refine ⟨y, hy, ?_⟩
    simp only [Bool.and_eq_true]
    exact ⟨⟨decide_eq_true hb.1, decide_eq_true ⟨hb.2.1.symm, hb.2.2.1.symm, hb.2.2.2.symm⟩⟩, hk⟩
theorem taken_none {l : Ls} (e : ofL L l.kind l.cl l.ia = none) : takenB L l = false := by
  unfold takenB
  rw [List.any_eq_false]
  intro y hy hc
  simp only [Bool.and_eq_true] at hc
  have := List.find?_eq_none.1 e y hy
  obtain ⟨⟨h1, h2⟩, _⟩ := hc
  unfold ownB at h2; rw [decide_eq_true_iff] at h2
  exact this (decide_eq_true ⟨of_decide_eq_true h1, h2.1.symm, h2.2.1.symm, h2.2.2.symm⟩)
end Go.Proofs.Ytpldkgollhbolaa
