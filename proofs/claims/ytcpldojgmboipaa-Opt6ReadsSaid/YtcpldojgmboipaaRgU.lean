/-
  A region that draws its order and may write: each operation is met once, in any world of a class and with what it waits for; its value and what it leaves in memory may speak of the values of what it waits for; each operation has its own way of stepping through memory. No program is named here. Conditions: those of each theorem's own statement.
-/
import Derived.Test.YtcpldojgmboipaaTbRg
namespace Go.Proofs.Ytcpldojgmboipaa
open Go Go.RowKit

theorem updF_at (vs : Nat → Value) (i : Nat) (v : Value) : updF vs i v i = v := if_pos rfl
theorem updF_ne {vs : Nat → Value} {i j : Nat} {v : Value} (h : j ≠ i) : updF vs i v j = vs j := if_neg h
theorem fillF_none {ds : List (Option Tmp)} (hn : ds.Nodup) {a : Act} {i : Nat} (hi : ds[i]? = some none) (vs : Nat → Value) (v : Value) : fillF a ds 0 vs = fillF a ds 0 (updF vs i v) := by
  refine act_ext (fun t => ?_) (by rw [fillF_defers, fillF_defers])
  rcases slot_of (ds := ds) (t := t) with h | ⟨j, hj⟩
  · rw [fillF_far _ _ _ _ _ h, fillF_far _ _ _ _ _ h]
  · by_cases ht : t < a.tmps.size
    · rw [fillF_at _ ds a 0 j t hn hj ht, fillF_at _ ds a 0 j t hn hj ht, Nat.zero_add, updF_ne (fun e => by subst e; rw [hi] at hj; cases hj)]
    · rw [Array.getElem?_eq_none (by rw [fillF_size]; exact Nat.le_of_not_lt ht), Array.getElem?_eq_none (by rw [fillF_size]; exact Nat.le_of_not_lt ht)]
/-- number s steps by X, each other one makes new memory only -/
def StK (s : Nat) (X : World → World → Prop) (k : Nat) (w w' : World) : Prop := match k == s with
  | true => X w w'
  | false => Below w.heap.size w w'
theorem StK.or {s : Nat} {X : World → World → Prop} {k : Nat} {w w' : World} (h : StK s X k w w') : X w w' ∨ Below w.heap.size w w' := by
  unfold StK at h
  split at h
  · exact Or.inl h
  · exact Or.inr h
theorem StK.ne {s : Nat} {X : World → World → Prop} {k : Nat} {w w' : World} (h : StK s X k w w') (hn : k ≠ s) : Below w.heap.size w w' := by
  unfold StK at h
  split at h
  · rename_i e; exact absurd (by simpa using e) hn
  · exact h

section
variable {P : Program} {ops : Array Oper} {Q : Exit → Act → World → Prop}
/-- each waits only for earlier ones; each that has a slot has its own, within the frame -/
def relV (ops : Array Oper) (n : Nat) : Bool :=
  (ops.toList.all (fun o => match o.dst with | some d => decide (d < n) | none => true)) && decide (dstsF ops).Nodup &&
  (List.range ops.size).all (fun i => match ops[i]? with | some o => o.after.all (fun e => !Region.binds .any e || decide (e.on < i)) | none => true)
/-- one operation's own -/
def OpOkU (P : Program) (ops : Array Oper) (Q : Exit → Act → World → Prop) (C : World → Prop) (St : Nat → World → World → Prop) (R : Nat → (Nat → Value) → World → Prop) (a : Act) (ds : List (Option Tmp)) (i : Nat) (o : Oper) : Prop :=
  (∀ (k : Nat) (vs vs' : Nat → Value) (w w' : World), k ≠ i → vs' i = vs i → (∀ j, depF o j = true → vs' j = vs j) → R i vs w → St k w w' → R i vs' w') ∧
  ∀ (a' : Act) (vs : Nat → Value) (w : World) (K : Act → World → Prop), Hid (a'.defers = a.defers) → C w → Hid (∀ j : Nat, depF o j = true → R j vs w ∧ ∀ d : Tmp, ds[j]? = some (some d) → a'.tmps[d]?.getD undef = vs j) → Hid (∀ t : Tmp, ds.contains (some t) = false → a'.tmps[t]?.getD undef = a.tmps[t]?.getD undef) →
    Shut (∀ v w', C w' → St i w w' → R i (updF vs i v) w' → K (a'.put o.dst v) w') → if Region.wanted o (yielded ops a'.tmps) = true then o.wp P a' w K Q else K (a'.put o.dst undef) w
def OpsOkU (P : Program) (ops : Array Oper) (Q : Exit → Act → World → Prop) (C : World → Prop) (St : Nat → World → World → Prop) (R : Nat → (Nat → Value) → World → Prop) (a : Act) (ds : List (Option Tmp)) : Nat → List Oper → Prop
  | _, [] => True
  | i, o :: l => OpOkU P ops Q C St R a ds i o ∧ OpsOkU P ops Q C St R a ds (i + 1) l
theorem OpsOkU.at {C : World → Prop} {St : Nat → World → World → Prop} {R : Nat → (Nat → Value) → World → Prop} {a : Act} {ds : List (Option Tmp)} : ∀ {l : List Oper} {k i : Nat} {o : Oper}, OpsOkU P ops Q C St R a ds k l → l[i]? = some o → OpOkU P ops Q C St R a ds (k + i) o
  | [], _, _, _, _, h => by cases h
  | x :: l, k, 0, o, hk, h => by simp at h; subst h; exact hk.1
  | x :: l, k, i + 1, o, hk, h => by
    have := OpsOkU.at (i := i) hk.2 (by simpa using h)
    rwa [show k + 1 + i = k + (i + 1) by omega] at this

theorem wpAny_relU {n : Nat} (hB : relV ops n = true) {C : World → Prop} {St : Nat → World → World → Prop} {R : Nat → (Nat → Value) → World → Prop} {a : Act} (hn : a.tmps.size = n)
    (hops : OpsOkU P ops Q C St R a (dstsF ops) 0 ops.toList)
    (hend : ∀ vs w, C w → (∀ j : Nat, j < ops.size → R j vs w) → Q .normal (fillF a (dstsF ops) 0 vs) w) :
    ∀ (fuel : Nat) (listed : Array Bool) (vs : Nat → Value) (w : World), listed.size = ops.size → cntF ops listed ≤ fuel → C w → (∀ j, listed.getD j false = true → R j vs w ∧ ∀ o, ops[j]? = some o → ∀ e ∈ o.after, Region.binds .any e = true → listed.getD e.on false = true) →
      wpAny P .any ops Q fuel listed (fillF a (dstsF ops) 0 vs) w := by
  unfold relV at hB
  simp only [Bool.and_eq_true, decide_eq_true_eq] at hB
  obtain ⟨⟨hG, hN⟩, hE⟩ := hB
  have hds : ∀ (i : Nat) (o : Oper), ops[i]? = some o → (dstsF ops)[i]? = some o.dst ∧ ∀ d, o.dst = some d → d < n := by
    intro i o ho
    have hm : o ∈ ops.toList := by
      obtain ⟨h1, h2⟩ := Array.getElem?_eq_some_iff.1 ho
      rw [← h2]; exact Array.getElem_mem_toList h1
    have h2 := List.all_eq_true.1 hG o hm
    refine ⟨?_, fun d hd => ?_⟩
    · unfold dstsF
      rw [List.getElem?_map, Array.getElem?_toList, ho]
      rfl
    · rw [hd] at h2; simpa using h2
  have hedge : ∀ (i : Nat) (o : Oper), ops[i]? = some o → ∀ e ∈ o.after, Region.binds .any e = true → e.on < i := by
    intro i o ho e he hb
    have hlt : i < ops.size := (Array.getElem?_eq_some_iff.1 ho).1
    have := List.all_eq_true.1 hE i (List.mem_range.2 hlt)
    rw [ho] at this
    have := Array.all_eq_true_iff_forall_mem.1 this e he
    rw [hb] at this
    simpa using this
  have allOf : ∀ listed : Array Bool, listed.size = ops.size → Region.ready .any ops listed = [] → ∀ j, j < ops.size → listed.getD j false = true := by
    intro listed hs hr j
    induction j using Nat.strongRecOn with
    | ind j ih =>
      intro hj
      cases hl : listed.getD j true with
      | true => simpa [hs ▸ hj] using hl
      | false =>
        exfalso
        have : j ∈ Region.ready .any ops listed := mem_ready.2 ⟨hl, ops[j], by simp [hj], fun e he hb => ih e.on (hedge j _ (by simp [hj]) e he hb) (by have := hedge j _ (by simp [hj]) e he hb; omega)⟩
        rw [hr] at this; cases this
  intro fuel
  induction fuel with
  | zero =>
    intro listed vs w hs hc hC hR
    have hr : Region.ready .any ops listed = [] := by
      apply List.eq_nil_iff_forall_not_mem.2
      intro j hj
      obtain ⟨h1, o, ho, _⟩ := mem_ready.1 hj
      have hm : j ∈ (List.range ops.size).filter fun i => !listed.getD i true := List.mem_filter.2 ⟨List.mem_range.2 (Array.getElem?_eq_some_iff.1 ho).1, by rw [h1]; rfl⟩
      have := List.length_pos_of_mem hm
      unfold cntF at hc
      omega
    exact ⟨hr, hend vs w hC (fun j hj => (hR j (allOf listed hs hr j hj)).1)⟩
  | succ fuel ih =>
    intro listed vs w hs hc hC hR
    refine ⟨fun hr => hend vs w hC (fun j hj => (hR j (allOf listed hs hr j hj)).1), fun i hi => ?_⟩
    obtain ⟨h1, o, ho, hall⟩ := mem_ready.1 hi
    obtain ⟨hdi, hdn⟩ := hds i o ho
    have hlt : i < ops.size := (Array.getElem?_eq_some_iff.1 ho).1
    have hni : listed.getD i false = false := by
      have : i < listed.size := by omega
      simp [this] at h1 ⊢
      exact h1
    have OK := hops.at (i := i) (by rw [Array.getElem?_toList]; exact ho)
    rw [Nat.zero_add] at OK
    unfold wpOp
    rw [ho]
    have use : ∀ {K : Act → World → Prop}, (if Region.wanted o (yielded ops (fillF a (dstsF ops) 0 vs).tmps) = true then o.wp P (fillF a (dstsF ops) 0 vs) w K Q else K ((fillF a (dstsF ops) 0 vs).put o.dst undef) w) →
        (if Region.wanted o (yielded ops (fillF a (dstsF ops) 0 vs).tmps) = true then o.wp P (fillF a (dstsF ops) 0 vs) w K Q ∨ (o.asks P (fillF a (dstsF ops) 0 vs) w ∧ LetsOut Q) else K ((fillF a (dstsF ops) 0 vs).put o.dst undef) w) := fun {K} h => by
      by_cases hw : Region.wanted o (yielded ops (fillF a (dstsF ops) 0 vs).tmps) = true
      · rw [if_pos hw] at h ⊢; exact Or.inl h
      · rw [if_neg hw] at h ⊢; exact h
    have hdone : ∀ j, depF o j = true → listed.getD j false = true := by
      intro j hdep
      unfold depF at hdep
      obtain ⟨x, hx, hy⟩ := Array.any_eq_true'.1 hdep
      rw [Bool.and_eq_true, beq_iff_eq] at hy
      have := hall x hx hy.1
      rwa [hy.2] at this
    refine use (OK.2 _ vs w _ (fillF_defers _ _ _ _) hC ?_ ?_ ?_)
    · intro j hdep
      refine ⟨(hR j (hdone j hdep)).1, fun dj hj => ?_⟩
      have hjn : dj < a.tmps.size := by
        obtain ⟨o2, ho2, e2⟩ : ∃ o2, ops[j]? = some o2 ∧ o2.dst = some dj := by
          unfold dstsF at hj
          rw [List.getElem?_map, Array.getElem?_toList] at hj
          cases h : ops[j]? with
          | none => rw [h] at hj; cases hj
          | some o2 => rw [h] at hj; simp at hj; exact ⟨o2, rfl, hj⟩
        rw [hn]; exact (hds j o2 ho2).2 dj e2
      rw [fillF_at vs _ a 0 j dj hN hj hjn, Nat.zero_add]; rfl
    · intro t ht
      rw [fillF_far vs _ a 0 t (by intro hm; rw [List.contains_iff_mem.2 hm] at ht; cases ht)]
    · intro v w' hC' hb hRi
      have hput : (fillF a (dstsF ops) 0 vs).put o.dst v = fillF a (dstsF ops) 0 (updF vs i v) := by
        cases hd : o.dst with
        | none => rw [hd] at hdi; exact fillF_none hN hdi vs v
        | some d => rw [hd] at hdi; exact fillF_put hN hdi vs v
      rw [hput]
      refine ih _ _ w' (by simpa using hs) ?_ hC' ?_
      · have : cntF ops (listed.setIfInBounds i true) < cntF ops listed := by
          unfold cntF
          refine filter_lt (i := i) (fun x hx => ?_) (List.mem_range.2 hlt) (by rw [h1]; rfl) ?_
          · by_cases hxi : i = x
            · subst hxi; rw [h1]; rfl
            · rwa [getD_set_ne true hxi] at hx
          · simp [hs, hlt]
        omega
      · have keep : ∀ j, listed.getD j false = true → (listed.setIfInBounds i true).getD j false = true := by
          intro j hj
          have hji : i ≠ j := fun e => by subst e; rw [hni] at hj; cases hj
          rw [getD_set_ne false hji]; exact hj
        intro j hj
        by_cases hji : j = i
        · subst hji
          refine ⟨hRi, fun o2 ho2 e he hbd => ?_⟩
          rw [ho] at ho2
          cases ho2
          exact keep _ (hall e he hbd)
        · rw [getD_set_ne false (fun e => hji e.symm)] at hj
          have hjl : j < ops.size := by
            rcases Nat.lt_or_ge j ops.size with h | h
            · exact h
            · have e : listed[j]? = none := Array.getElem?_eq_none (by omega)
              rw [Array.getD_eq_getD_getElem?, e] at hj; cases hj
          have hoj : ops[j]? = some ops[j] := by simp [hjl]
          have OJ := hops.at (i := j) (o := ops[j]) (by rw [Array.getElem?_toList]; exact hoj)
          rw [Nat.zero_add] at OJ
          obtain ⟨r1, r2⟩ := hR j hj
          refine ⟨OJ.1 i vs _ _ _ (fun e => hji e.symm) (updF_ne hji) (fun d hdep => updF_ne ?_) r1 hb, fun o2 ho2 e he hbd => keep _ (r2 o2 ho2 e he hbd)⟩
          unfold depF at hdep
          obtain ⟨x, hx, hy⟩ := Array.any_eq_true'.1 hdep
          rw [Bool.and_eq_true, beq_iff_eq] at hy
          have := r2 _ hoj x hx hy.1
          rw [hy.2] at this
          intro e
          subst e
          rw [hni] at this
          cases this
/-- the region's law -/
theorem wp_region_relU {id : Nat} {a : Act} {w : World} {l : List Oper} (C : World → Prop) (s : Nat) (X : World → World → Prop) (ds : List (Option Tmp)) (Rs : List ((Nat → Value) → World → Prop)) (n : Nat) (hm : P.follows .mixedOrders = true) (hB : relV l.toArray n = true) (hds : l.map (·.dst) = ds) (hn : a.tmps.size = n) (hC : C { w with drawn := w.drawn + 1 })
    (hops : OpsOkU P l.toArray Q C (StK s X) (fun i => Rs.getD i (fun _ _ => False)) a ds 0 l)
    (hend : ∀ vs w, C w → Hid (∀ j, j < ds.length → Rs.getD j (fun _ _ => False) vs w) → Q .normal (fillF a ds 0 vs) w) : (Code.region id l.toArray true).wp P Q a w := by
  refine wp_region_any hm ?_
  subst hds
  have hN : (dstsF l.toArray).Nodup := by
    unfold relV at hB
    simp only [Bool.and_eq_true, decide_eq_true_eq] at hB
    exact hB.1.2
  obtain ⟨vs0, hv0⟩ : ∃ vs, fillF a (dstsF l.toArray) 0 vs = a := ⟨_, fillF_own hN a⟩
  have := wpAny_relU (P := P) (Q := Q) (C := C) (St := StK s X) (a := a) (R := fun i => Rs.getD i (fun _ _ => False)) hB hn hops (fun vs w hc h => hend vs w hc (fun j hj => h j (by simpa using hj))) l.toArray.size (Array.replicate l.toArray.size false) vs0 { w with drawn := w.drawn + 1 } (by simp) (by
    unfold cntF
    exact Nat.le_trans (List.length_filter_le _ _) (by simp)) hC (fun j hj => by
      exfalso
      by_cases h : j < l.length
      · simp [h] at hj
      · simp [h] at hj)
  rwa [hv0] at this
end
end Go.Proofs.Ytcpldojgmboipaa
