/-
  A region that draws its order and has guards, by what each operation's value is, and not in which order: each operation is met once, in any world of a class and with what it waits for; its value may hang on the world (a new row's address). No program is named here. Conditions: those of each theorem's own statement.
-/
import Derived.Test.YtcpldojgmboipaaProg
import Derived.OrdersHeld
import Derived.Deep.RegionHeld
import Derived.Below
import Derived.WalkKit
import Derived.Lib.Hide
namespace Go.Proofs.Ytcpldojgmboipaa
open Go Go.RowKit

/-- the state behind some of the operations -/
def fillF (a : Act) : List (Option Tmp) → Nat → (Nat → Value) → Act
  | [], _, _ => a
  | d :: ds, k, vs => fillF (a.put d (vs k)) ds (k + 1) vs
def updF (vs : Nat → Value) (i : Nat) (v : Value) : Nat → Value := fun j => if j = i then v else vs j
theorem put_size (a : Act) (d : Option Tmp) (v : Value) : (a.put d v).tmps.size = a.tmps.size := by cases d <;> simp [Act.put]
theorem put_defers (a : Act) (d : Option Tmp) (v : Value) : (a.put d v).defers = a.defers := by cases d <;> rfl
theorem put_at (a : Act) (d t : Tmp) (v : Value) : (a.put (some d) v).tmps[t]? = if d = t then (if t < a.tmps.size then some v else none) else a.tmps[t]? := by
  unfold Act.put
  rw [Array.getElem?_setIfInBounds]
  by_cases h : d = t
  · subst h; rw [if_pos rfl]
  · rw [if_neg h, if_neg h]
theorem fillF_size (vs : Nat → Value) : ∀ (ds : List (Option Tmp)) (a : Act) (k : Nat), (fillF a ds k vs).tmps.size = a.tmps.size
  | [], _, _ => rfl
  | d :: ds, a, k => by rw [fillF, fillF_size vs ds, put_size]
theorem fillF_defers (vs : Nat → Value) : ∀ (ds : List (Option Tmp)) (a : Act) (k : Nat), (fillF a ds k vs).defers = a.defers
  | [], _, _ => rfl
  | d :: ds, a, k => by rw [fillF, fillF_defers vs ds, put_defers]
theorem fillF_far (vs : Nat → Value) : ∀ (ds : List (Option Tmp)) (a : Act) (k : Nat) (t : Tmp), some t ∉ ds → (fillF a ds k vs).tmps[t]? = a.tmps[t]?
  | [], _, _, _, _ => rfl
  | d :: ds, a, k, t, h => by
    rw [fillF, fillF_far vs ds _ _ t (fun h2 => h (List.mem_cons_of_mem _ h2))]
    cases d with
    | none => rfl
    | some d => rw [put_at, if_neg (fun e => h (by rw [e]; exact List.mem_cons_self))]
theorem fillF_at (vs : Nat → Value) : ∀ (ds : List (Option Tmp)) (a : Act) (k i : Nat) (t : Tmp), ds.Nodup → ds[i]? = some (some t) → t < a.tmps.size → (fillF a ds k vs).tmps[t]? = some (vs (k + i))
  | [], _, _, _, _, _, h, _ => by cases h
  | d :: ds, a, k, 0, t, hn, h, ht => by
    simp at h
    subst h
    rw [fillF, fillF_far vs ds _ _ t (List.nodup_cons.1 hn).1, put_at, if_pos rfl, if_pos ht]; rfl
  | d :: ds, a, k, i + 1, t, hn, h, ht => by
    rw [fillF, fillF_at vs ds _ (k + 1) i t (List.nodup_cons.1 hn).2 (by simpa using h) (by rw [put_size]; exact ht)]
    congr 2; omega
theorem act_ext {a b : Act} (h : ∀ t : Nat, a.tmps[t]? = b.tmps[t]?) (k : a.defers = b.defers) : a = b := by
  cases a; cases b
  simp only at h k
  subst k
  congr 1
  exact Array.ext_getElem? h
/-- the place of a slot among the operations -/
theorem slot_of {ds : List (Option Tmp)} {t : Tmp} : some t ∉ ds ∨ ∃ i : Nat, ds[i]? = some (some t) := by
  by_cases h : some t ∈ ds
  · obtain ⟨i, hi, e⟩ := List.mem_iff_getElem.1 h
    exact Or.inr ⟨i, by rw [List.getElem?_eq_getElem hi, e]⟩
  · exact Or.inl h
theorem nodup_at {ds : List (Option Tmp)} (hn : ds.Nodup) {i j : Nat} {x : Option Tmp} (hi : ds[i]? = some x) (hj : ds[j]? = some x) : i = j := by
  obtain ⟨h1, e1⟩ := List.getElem?_eq_some_iff.1 hi
  obtain ⟨h2, e2⟩ := List.getElem?_eq_some_iff.1 hj
  exact (List.getElem_inj hn).1 (e1.trans e2.symm)
theorem fillF_put {ds : List (Option Tmp)} (hn : ds.Nodup) {a : Act} {i : Nat} {d : Tmp} (hi : ds[i]? = some (some d)) (vs : Nat → Value) (v : Value) :
    (fillF a ds 0 vs).put (some d) v = fillF a ds 0 (updF vs i v) := by
  refine act_ext (fun t => ?_) (by rw [put_defers, fillF_defers, fillF_defers])
  rw [put_at, fillF_size]
  by_cases hd : d = t
  · subst hd
    rw [if_pos rfl]
    by_cases ht : d < a.tmps.size
    · rw [if_pos ht, fillF_at _ ds a 0 i d hn hi ht, Nat.zero_add]
      unfold updF; rw [if_pos rfl]
    · rw [if_neg ht]
      symm
      exact Array.getElem?_eq_none (by rw [fillF_size]; exact Nat.le_of_not_lt ht)
  · rw [if_neg hd]
    rcases slot_of (ds := ds) (t := t) with h | ⟨j, hj⟩
    · rw [fillF_far _ _ _ _ _ h, fillF_far _ _ _ _ _ h]
    · by_cases ht : t < a.tmps.size
      · rw [fillF_at _ ds a 0 j t hn hj ht, fillF_at _ ds a 0 j t hn hj ht, Nat.zero_add]
        unfold updF
        rw [if_neg (fun e => hd (by subst e; rw [hi] at hj; cases hj; rfl))]
      · rw [Array.getElem?_eq_none (by rw [fillF_size]; exact Nat.le_of_not_lt ht), Array.getElem?_eq_none (by rw [fillF_size]; exact Nat.le_of_not_lt ht)]
theorem fillF_own {ds : List (Option Tmp)} (hn : ds.Nodup) (a : Act) : fillF a ds 0 (fun i => match ds[i]? with | some (some t) => a.tmps.getD t undef | _ => undef) = a := by
  refine act_ext (fun t => ?_) (fillF_defers _ _ _ _)
  rcases slot_of (ds := ds) (t := t) with h | ⟨j, hj⟩
  · exact fillF_far _ _ _ _ _ h
  · by_cases ht : t < a.tmps.size
    · rw [fillF_at _ ds a 0 j t hn hj ht, Nat.zero_add, hj]
      simp [ht]
    · rw [Array.getElem?_eq_none (by rw [fillF_size]; exact Nat.le_of_not_lt ht), Array.getElem?_eq_none (Nat.le_of_not_lt ht)]

section
variable {P : Program} {ops : Array Oper} {Q : Exit → Act → World → Prop}
def dstsF (ops : Array Oper) : List (Option Tmp) := ops.toList.map (·.dst)
/-- an operation waits for number j -/
def depF (o : Oper) (j : Nat) : Bool := o.after.any (fun e => Region.binds .any e && e.on == j)
/-- each waits only for earlier ones; each has a slot of its own, within the frame -/
def relB (ops : Array Oper) (n : Nat) : Bool :=
  (ops.toList.all (fun o => match o.dst with | some d => decide (d < n) | none => false)) && decide (dstsF ops).Nodup &&
  (List.range ops.size).all (fun i => match ops[i]? with | some o => o.after.all (fun e => !Region.binds .any e || decide (e.on < i)) | none => true)

/-- one operation's own: its value stays right; it runs, with what it waits for, in any world of the class -/
def OpOk (P : Program) (ops : Array Oper) (Q : Exit → Act → World → Prop) (C : World → Prop) (R : Nat → Value → World → Prop) (a : Act) (ds : List (Option Tmp)) (i : Nat) (o : Oper) : Prop :=
  (∀ v w w', R i v w → Below w.heap.size w w' → R i v w') ∧
  ∀ (a' : Act) (w : World) (K : Act → World → Prop), Hid (a'.defers = a.defers) → C w → Hid (∀ (j : Nat) (d : Tmp), depF o j = true → ds[j]? = some (some d) → R j (a'.tmps[d]?.getD undef) w) → Hid (∀ t : Tmp, ds.contains (some t) = false → a'.tmps[t]?.getD undef = a.tmps[t]?.getD undef) →
    Shut (∀ v w', C w' → Below w.heap.size w w' → R i v w' → K (a'.put o.dst v) w') → if Region.wanted o (yielded ops a'.tmps) = true then o.wp P a' w K Q else K (a'.put o.dst undef) w
def OpsOk (P : Program) (ops : Array Oper) (Q : Exit → Act → World → Prop) (C : World → Prop) (R : Nat → Value → World → Prop) (a : Act) (ds : List (Option Tmp)) : Nat → List Oper → Prop
  | _, [] => True
  | i, o :: l => OpOk P ops Q C R a ds i o ∧ OpsOk P ops Q C R a ds (i + 1) l
theorem OpsOk.at {C : World → Prop} {R : Nat → Value → World → Prop} {a : Act} {ds : List (Option Tmp)} : ∀ {l : List Oper} {k i : Nat} {o : Oper}, OpsOk P ops Q C R a ds k l → l[i]? = some o → OpOk P ops Q C R a ds (k + i) o
  | [], _, _, _, _, h => by cases h
  | x :: l, k, 0, o, hk, h => by simp at h; subst h; exact hk.1
  | x :: l, k, i + 1, o, hk, h => by
    have := OpsOk.at (i := i) hk.2 (by simpa using h)
    rwa [show k + 1 + i = k + (i + 1) by omega] at this

def cntF (ops : Array Oper) (listed : Array Bool) : Nat := ((List.range ops.size).filter fun i => !listed.getD i true).length
theorem filter_lt {l : List Nat} {p q : Nat → Bool} (h : ∀ x, q x = true → p x = true) {i : Nat} (hi : i ∈ l) (hp : p i = true) (hq : q i = false) : (l.filter q).length < (l.filter p).length := by
  induction l with
  | nil => cases hi
  | cons x l ih =>
    have hle : (l.filter q).length ≤ (l.filter p).length := by
      clear ih hi
      induction l with
      | nil => simp
      | cons y l ih =>
        by_cases hy : q y = true
        · rw [List.filter_cons_of_pos hy, List.filter_cons_of_pos (h y hy)]; simp; exact ih
        · by_cases hz : p y = true
          · rw [List.filter_cons_of_neg hy, List.filter_cons_of_pos hz]; simp; omega
          · rw [List.filter_cons_of_neg hy, List.filter_cons_of_neg hz]; exact ih
    rcases List.mem_cons.1 hi with rfl | hi
    · rw [List.filter_cons_of_pos hp, List.filter_cons_of_neg (by simp [hq])]; simp; omega
    · have := ih hi
      by_cases hx : q x = true
      · rw [List.filter_cons_of_pos hx, List.filter_cons_of_pos (h x hx)]; simp; omega
      · by_cases hz : p x = true
        · rw [List.filter_cons_of_neg hx, List.filter_cons_of_pos hz]; simp; omega
        · rw [List.filter_cons_of_neg hx, List.filter_cons_of_neg hz]; omega

theorem wpAny_rel {n : Nat} (hB : relB ops n = true) {C : World → Prop} {R : Nat → Value → World → Prop} {a : Act} (hn : a.tmps.size = n)
    (hops : OpsOk P ops Q C R a (dstsF ops) 0 ops.toList)
    (hend : ∀ vs w, C w → (∀ j : Nat, j < ops.size → R j (vs j) w) → Q .normal (fillF a (dstsF ops) 0 vs) w) :
    ∀ (fuel : Nat) (listed : Array Bool) (vs : Nat → Value) (w : World), listed.size = ops.size → cntF ops listed ≤ fuel → C w → (∀ j, listed.getD j false = true → R j (vs j) w) →
      wpAny P .any ops Q fuel listed (fillF a (dstsF ops) 0 vs) w := by
  unfold relB at hB
  simp only [Bool.and_eq_true, decide_eq_true_eq] at hB
  obtain ⟨⟨hG, hN⟩, hE⟩ := hB
  have hds : ∀ (i : Nat) (o : Oper), ops[i]? = some o → ∃ d, o.dst = some d ∧ (dstsF ops)[i]? = some (some d) ∧ d < n := by
    intro i o ho
    have hm : o ∈ ops.toList := by
      have := (Array.getElem?_eq_some_iff.1 ho)
      obtain ⟨h1, h2⟩ := this
      rw [← h2]; exact Array.getElem_mem_toList h1
    have := List.all_eq_true.1 hG o hm
    have h2 := this
    cases hd : o.dst with
    | none => rw [hd] at h2; cases h2
    | some d =>
      rw [hd] at h2
      refine ⟨d, rfl, ?_, by simpa using h2⟩
      unfold dstsF
      rw [List.getElem?_map, Array.getElem?_toList, ho]
      simp [hd]
  have hedge : ∀ (i : Nat) (o : Oper), ops[i]? = some o → ∀ e ∈ o.after, Region.binds .any e = true → e.on < i := by
    intro i o ho e he hb
    have hlt : i < ops.size := (Array.getElem?_eq_some_iff.1 ho).1
    have := List.all_eq_true.1 hE i (List.mem_range.2 hlt)
    rw [ho] at this
    have := Array.all_eq_true_iff_forall_mem.1 this e he
    rw [hb] at this
    simpa using this
  have hlen : (dstsF ops).length = ops.size := by unfold dstsF; simp
  have allOf : ∀ listed : Array Bool, listed.size = ops.size → Region.ready .any ops listed = [] → ∀ j, j < ops.size → listed.getD j false = true := by
    intro listed hs hr j
    induction j using Nat.strongRecOn with
    | ind j ih =>
      intro hj
      cases hl : listed.getD j true with
      | true => simpa [hs ▸ hj] using hl
      | false =>
        exfalso
        have : j ∈ Region.ready .any ops listed := mem_ready.2 ⟨hl, ops[j], by simp [hj], fun e he hb => ih e.on (hedge j _ (by simp [hj]) e he hb) (by have := hedge j _ (by simp [hj]) e he hb; omega)⟩
        rw [hr] at this; cases this
  intro fuel
  induction fuel with
  | zero =>
    intro listed vs w hs hc hC hR
    have hr : Region.ready .any ops listed = [] := by
      apply List.eq_nil_iff_forall_not_mem.2
      intro j hj
      obtain ⟨h1, o, ho, _⟩ := mem_ready.1 hj
      have hm : j ∈ (List.range ops.size).filter fun i => !listed.getD i true := List.mem_filter.2 ⟨List.mem_range.2 (Array.getElem?_eq_some_iff.1 ho).1, by rw [h1]; rfl⟩
      have := List.length_pos_of_mem hm
      unfold cntF at hc
      omega
    exact ⟨hr, hend vs w hC (fun j hj => hR j (allOf listed hs hr j hj))⟩
  | succ fuel ih =>
    intro listed vs w hs hc hC hR
    refine ⟨fun hr => hend vs w hC (fun j hj => hR j (allOf listed hs hr j hj)), fun i hi => ?_⟩
    obtain ⟨h1, o, ho, hall⟩ := mem_ready.1 hi
    obtain ⟨d, hd, hdi, hdn⟩ := hds i o ho
    have hlt : i < ops.size := (Array.getElem?_eq_some_iff.1 ho).1
    have OK := hops.at (i := i) (by rw [Array.getElem?_toList]; exact ho)
    rw [Nat.zero_add] at OK
    unfold wpOp
    rw [ho]
    have use : ∀ {K : Act → World → Prop}, (if Region.wanted o (yielded ops (fillF a (dstsF ops) 0 vs).tmps) = true then o.wp P (fillF a (dstsF ops) 0 vs) w K Q else K ((fillF a (dstsF ops) 0 vs).put o.dst undef) w) →
        (if Region.wanted o (yielded ops (fillF a (dstsF ops) 0 vs).tmps) = true then o.wp P (fillF a (dstsF ops) 0 vs) w K Q ∨ (o.asks P (fillF a (dstsF ops) 0 vs) w ∧ LetsOut Q) else K ((fillF a (dstsF ops) 0 vs).put o.dst undef) w) := fun {K} h => by
      by_cases hw : Region.wanted o (yielded ops (fillF a (dstsF ops) 0 vs).tmps) = true
      · rw [if_pos hw] at h ⊢; exact Or.inl h
      · rw [if_neg hw] at h ⊢; exact h
    refine use (OK.2 _ w _ (fillF_defers _ _ _ _) hC ?_ ?_ ?_)
    · intro j dj hdep hj
      have hjn : dj < a.tmps.size := by
        obtain ⟨o2, ho2, e2⟩ : ∃ o2, ops[j]? = some o2 ∧ o2.dst = some dj := by
          unfold dstsF at hj
          rw [List.getElem?_map, Array.getElem?_toList] at hj
          cases h : ops[j]? with
          | none => rw [h] at hj; cases hj
          | some o2 => rw [h] at hj; simp at hj; exact ⟨o2, rfl, hj⟩
        obtain ⟨d2, e3, _, h4⟩ := hds j o2 ho2
        rw [e2] at e3; cases e3
        rw [hn]; exact h4
      have e : (fillF a (dstsF ops) 0 vs).tmps[dj]?.getD undef = vs j := by
        rw [fillF_at vs _ a 0 j dj hN hj hjn, Nat.zero_add]; rfl
      rw [e]
      unfold depF at hdep
      obtain ⟨x, hx, hy⟩ := Array.any_eq_true'.1 hdep
      rw [Bool.and_eq_true, beq_iff_eq] at hy
      have := hall x hx hy.1
      rw [hy.2] at this
      exact hR j this
    · intro t ht
      rw [fillF_far vs _ a 0 t (by intro hm; rw [List.contains_iff_mem.2 hm] at ht; cases ht)]
    · intro v w' hC' hb hRi
      rw [hd, fillF_put hN hdi]
      refine ih _ _ w' (by simpa using hs) ?_ hC' ?_
      · have : cntF ops (listed.setIfInBounds i true) < cntF ops listed := by
          unfold cntF
          refine filter_lt (i := i) (fun x hx => ?_) (List.mem_range.2 hlt) (by rw [h1]; rfl) ?_
          · by_cases hxi : i = x
            · subst hxi; rw [h1]; rfl
            · rwa [getD_set_ne true hxi] at hx
          · simp [hs, hlt]
        omega
      · intro j hj
        unfold updF
        by_cases hji : j = i
        · subst hji; rw [if_pos rfl]; exact hRi
        · rw [if_neg hji]
          rw [getD_set_ne false (fun e => hji e.symm)] at hj
          have hjl : j < ops.size := by
            rcases Nat.lt_or_ge j ops.size with h | h
            · exact h
            · have e : listed[j]? = none := Array.getElem?_eq_none (by omega)
              rw [Array.getD_eq_getD_getElem?, e] at hj; cases hj
          have := hops.at (i := j) (o := ops[j]) (by rw [Array.getElem?_toList]; simp [hjl])
          rw [Nat.zero_add] at this
          exact this.1 _ _ _ (hR j hj) hb

/-- whether an operation is wanted, by its guard's slot -/
theorem wanted_at {o : Oper} {j d : Nat} {want b : Bool} {a : Act} (hg : o.guard = some (j, want)) (hj : (ops[j]?).bind (·.dst) = some d) (ha : a.tmps[d]?.getD undef = .bool b) : Region.wanted o (yielded ops a.tmps) = (b == want) := by
  unfold Region.wanted
  rw [hg]
  simp only
  have : yielded ops a.tmps j = some b := by
    unfold yielded
    rw [hj]
    simp only [Option.bind_some]
    cases h : a.tmps[d]? with
    | none => rw [h] at ha; simp [undef] at ha
    | some v => rw [h] at ha; simp only [Option.getD_some] at ha; rw [ha]
  rw [this]
  cases b <;> cases want <;> rfl
/-- an operation whose guard isn't wanted isn't, either -/
theorem wanted_no {o : Oper} {j d : Nat} {want : Bool} {a : Act} (hg : o.guard = some (j, want)) (hj : (ops[j]?).bind (·.dst) = some d) (ha : a.tmps[d]?.getD undef = undef) : Region.wanted o (yielded ops a.tmps) = false := by
  unfold Region.wanted
  rw [hg]
  simp only
  have : yielded ops a.tmps j = none := by
    unfold yielded
    rw [hj]
    simp only [Option.bind_some]
    cases h : a.tmps[d]? with
    | none => rfl
    | some v => rw [h] at ha; simp only [Option.getD_some] at ha; rw [ha]; rfl
  rw [this]
  rfl
theorem op_plain {o : Oper} {y : Nat → Option Bool} {A B : Prop} (hg : o.guard = none) (k : A) : if Region.wanted o y = true then A else B := by
  rw [if_pos (by unfold Region.wanted; rw [hg])]; exact k
theorem op_yes {o : Oper} {j d : Nat} {want : Bool} {a : Act} {A B : Prop} (hg : o.guard = some (j, want)) (hj : (ops[j]?).bind (·.dst) = some d) (ha : a.tmps[d]?.getD undef = .bool want) (k : A) : if Region.wanted o (yielded ops a.tmps) = true then A else B := by
  rw [if_pos (by rw [wanted_at hg hj ha]; cases want <;> rfl)]; exact k
theorem op_no {o : Oper} {j d : Nat} {want b : Bool} {a : Act} {A B : Prop} (hg : o.guard = some (j, want)) (hj : (ops[j]?).bind (·.dst) = some d) (ha : a.tmps[d]?.getD undef = .bool b) (hb : (b == want) = false) (k : B) : if Region.wanted o (yielded ops a.tmps) = true then A else B := by
  rw [if_neg (by rw [wanted_at hg hj ha, hb]; decide)]; exact k
theorem op_undef {o : Oper} {j d : Nat} {want : Bool} {a : Act} {A B : Prop} (hg : o.guard = some (j, want)) (hj : (ops[j]?).bind (·.dst) = some d) (ha : a.tmps[d]?.getD undef = undef) (k : B) : if Region.wanted o (yielded ops a.tmps) = true then A else B := by
  rw [if_neg (by rw [wanted_no hg hj ha]; decide)]; exact k
/-- the region's law -/
theorem wp_region_rel {id : Nat} {a : Act} {w : World} {l : List Oper} (C : World → Prop) (ds : List (Option Tmp)) (Rs : List (Value → World → Prop)) (n : Nat) (hm : P.follows .mixedOrders = true) (hB : relB l.toArray n = true) (hds : l.map (·.dst) = ds) (hn : a.tmps.size = n) (hC : C { w with drawn := w.drawn + 1 })
    (hops : OpsOk P l.toArray Q C (fun i => Rs.getD i (fun _ _ => False)) a ds 0 l)
    (hend : ∀ vs w, C w → Hid (∀ j, j < ds.length → Rs.getD j (fun _ _ => False) (vs j) w) → Q .normal (fillF a ds 0 vs) w) : (Code.region id l.toArray true).wp P Q a w := by
  refine wp_region_any hm ?_
  subst hds
  have hN : (dstsF l.toArray).Nodup := by
    unfold relB at hB
    simp only [Bool.and_eq_true, decide_eq_true_eq] at hB
    exact hB.1.2
  have := wpAny_rel (P := P) (Q := Q) (C := C) (a := a) (R := fun i => Rs.getD i (fun _ _ => False)) hB hn hops (fun vs w hc h => hend vs w hc (fun j hj => h j (by simpa using hj))) l.toArray.size (Array.replicate l.toArray.size false) (fun i => match (dstsF l.toArray)[i]? with | some (some t) => a.tmps.getD t undef | _ => undef) { w with drawn := w.drawn + 1 } (by simp) (by
    unfold cntF
    exact Nat.le_trans (List.length_filter_le _ _) (by simp)) hC (fun j hj => by
      exfalso
      by_cases h : j < l.length
      · simp [h] at hj
      · simp [h] at hj)
  rwa [fillF_own hN a] at this
end
end Go.Proofs.Ytcpldojgmboipaa
