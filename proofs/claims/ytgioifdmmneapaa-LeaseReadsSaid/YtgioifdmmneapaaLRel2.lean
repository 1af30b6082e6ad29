/-
  The law of LRel once more, for regions in which an operation reads a slot that a later one writes. No program is named here. Conditions: those of each theorem's own statement.
-/
import Derived.Test.YtgioifdmmneapaaLRel
namespace Go.Proofs.Ytgioifdmmneapaa
open Go Go.RowKit

section
variable {P : Program} {ops : Array Oper} {Q : Exit → Act → World → Prop}
/-- a slot that no operation of the region has written when number i runs: none writes it, or the one that does waits for number i -/
def oldF (l : List Oper) (ds : List (Option Tmp)) (i : Nat) (t : Tmp) : Bool := !ds.contains (some t) || (List.range l.length).any (fun j => match l[j]?, ds[j]? with | some o, some (some d) => d == t && depF o i | _, _ => false)
/-- one operation's own: its value stays right; it runs, with what it waits for, in any world of the class -/
def OpOk2 (P : Program) (Q : Exit → Act → World → Prop) (C : World → Prop) (R : Nat → Value → World → Prop) (a : Act) (ds : List (Option Tmp)) (l : List Oper) (i : Nat) (o : Oper) : Prop :=
  (∀ v w w', R i v w → Below w.heap.size w w' → R i v w') ∧
  ∀ (a' : Act) (w : World) (K : Act → World → Prop), C w → Hid (∀ (j : Nat) (d : Tmp), depF o j = true → ds[j]? = some (some d) → R j (a'.tmps[d]?.getD undef) w) → Hid (∀ t : Tmp, oldF l ds i t = true → a'.tmps[t]?.getD undef = a.tmps[t]?.getD undef) →
    Shut (∀ v w', C w' → Below w.heap.size w w' → R i v w' → K (a'.put o.dst v) w') → o.wp P a' w K Q
def OpsOk2 (P : Program) (Q : Exit → Act → World → Prop) (C : World → Prop) (R : Nat → Value → World → Prop) (a : Act) (ds : List (Option Tmp)) (l0 : List Oper) : Nat → List Oper → Prop
  | _, [] => True
  | i, o :: l => OpOk2 P Q C R a ds l0 i o ∧ OpsOk2 P Q C R a ds l0 (i + 1) l
theorem OpsOk2.at {C : World → Prop} {R : Nat → Value → World → Prop} {a : Act} {ds : List (Option Tmp)} {l0 : List Oper} : ∀ {l : List Oper} {k i : Nat} {o : Oper}, OpsOk2 P Q C R a ds l0 k l → l[i]? = some o → OpOk2 P Q C R a ds l0 (k + i) o
  | [], _, _, _, _, h => by cases h
  | x :: l, k, 0, o, hk, h => by simp at h; subst h; exact hk.1
  | x :: l, k, i + 1, o, hk, h => by
    have := OpsOk2.at (i := i) hk.2 (by simpa using h)
    rwa [show k + 1 + i = k + (i + 1) by omega] at this

theorem wpAny_rel2 {n : Nat} (hB : relB ops n = true) {C : World → Prop} {R : Nat → Value → World → Prop} {a : Act} (hn : a.tmps.size = n)
    (hops : OpsOk2 P Q C R a (dstsF ops) ops.toList 0 ops.toList)
    (hend : ∀ vs w, C w → (∀ j : Nat, j < ops.size → R j (vs j) w) → Q .normal (fillF a (dstsF ops) 0 vs) w) :
    ∀ (fuel : Nat) (listed : Array Bool) (vs : Nat → Value) (w : World), listed.size = ops.size → cntF ops listed ≤ fuel → C w → (∀ j, listed.getD j false = true → R j (vs j) w) → (∀ (j : Nat) (d : Tmp), (dstsF ops)[j]? = some (some d) → listed.getD j false = false → vs j = a.tmps[d]?.getD undef) → (∀ j, listed.getD j false = true → ∀ o, ops[j]? = some o → ∀ e ∈ o.after, Region.binds .any e = true → listed.getD e.on false = true) →
      wpAny P .any ops Q fuel listed (fillF a (dstsF ops) 0 vs) w := by
  unfold relB at hB
  simp only [Bool.and_eq_true, decide_eq_true_eq] at hB
  obtain ⟨⟨hG, hN⟩, hE⟩ := hB
  have hds : ∀ (i : Nat) (o : Oper), ops[i]? = some o → ∃ d, o.dst = some d ∧ (dstsF ops)[i]? = some (some d) ∧ d < n ∧ o.guard = none := by
    intro i o ho
    have hm : o ∈ ops.toList := by
      have := (Array.getElem?_eq_some_iff.1 ho)
      obtain ⟨h1, h2⟩ := this
      rw [← h2]; exact Array.getElem_mem_toList h1
    have := List.all_eq_true.1 hG o hm
    rw [Bool.and_eq_true] at this
    obtain ⟨h1, h2⟩ := this
    cases hd : o.dst with
    | none => rw [hd] at h2; cases h2
    | some d =>
      rw [hd] at h2
      refine ⟨d, rfl, ?_, by simpa using h2, by simpa using h1⟩
      unfold dstsF
      rw [List.getElem?_map, Array.getElem?_toList, ho]
      simp [hd]
  have hedge : ∀ (i : Nat) (o : Oper), ops[i]? = some o → ∀ e ∈ o.after, Region.binds .any e = true → e.on < i := by
    intro i o ho e he hb
    have hlt : i < ops.size := (Array.getElem?_eq_some_iff.1 ho).1
    have := List.all_eq_true.1 hE i (List.mem_range.2 hlt)
    rw [ho] at this
    have := Array.all_eq_true_iff_forall_mem.1 this e he
    rw [hb] at this
    simpa using this
  have hlen : (dstsF ops).length = ops.size := by unfold dstsF; simp
  have allOf : ∀ listed : Array Bool, listed.size = ops.size → Region.ready .any ops listed = [] → ∀ j, j < ops.size → listed.getD j false = true := by
    intro listed hs hr j
    induction j using Nat.strongRecOn with
    | ind j ih =>
      intro hj
      cases hl : listed.getD j true with
      | true => simpa [hs ▸ hj] using hl
      | false =>
        exfalso
        have : j ∈ Region.ready .any ops listed := mem_ready.2 ⟨hl, ops[j], by simp [hj], fun e he hb => ih e.on (hedge j _ (by simp [hj]) e he hb) (by have := hedge j _ (by simp [hj]) e he hb; omega)⟩
        rw [hr] at this; cases this
  intro fuel
  induction fuel with
  | zero =>
    intro listed vs w hs hc hC hR hO hL
    have hr : Region.ready .any ops listed = [] := by
      apply List.eq_nil_iff_forall_not_mem.2
      intro j hj
      obtain ⟨h1, o, ho, _⟩ := mem_ready.1 hj
      have hm : j ∈ (List.range ops.size).filter fun i => !listed.getD i true := List.mem_filter.2 ⟨List.mem_range.2 (Array.getElem?_eq_some_iff.1 ho).1, by rw [h1]; rfl⟩
      have := List.length_pos_of_mem hm
      unfold cntF at hc
      omega
    exact ⟨hr, hend vs w hC (fun j hj => hR j (allOf listed hs hr j hj))⟩
  | succ fuel ih =>
    intro listed vs w hs hc hC hR hO hL
    refine ⟨fun hr => hend vs w hC (fun j hj => hR j (allOf listed hs hr j hj)), fun i hi => ?_⟩
    obtain ⟨h1, o, ho, hall⟩ := mem_ready.1 hi
    obtain ⟨d, hd, hdi, hdn, hg⟩ := hds i o ho
    have hlt : i < ops.size := (Array.getElem?_eq_some_iff.1 ho).1
    have OK := hops.at (i := i) (by rw [Array.getElem?_toList]; exact ho)
    rw [Nat.zero_add] at OK
    unfold wpOp
    rw [ho]
    have hw : Region.wanted o (yielded ops (fillF a (dstsF ops) 0 vs).tmps) = true := by unfold Region.wanted; rw [hg]
    simp only [hw, if_true]
    refine Or.inl (OK.2 _ w _ hC ?_ ?_ ?_)
    · intro j dj hdep hj
      have hjn : dj < a.tmps.size := by
        obtain ⟨o2, ho2, e2⟩ : ∃ o2, ops[j]? = some o2 ∧ o2.dst = some dj := by
          unfold dstsF at hj
          rw [List.getElem?_map, Array.getElem?_toList] at hj
          cases h : ops[j]? with
          | none => rw [h] at hj; cases hj
          | some o2 => rw [h] at hj; simp at hj; exact ⟨o2, rfl, hj⟩
        obtain ⟨d2, e3, _, h4, _⟩ := hds j o2 ho2
        rw [e2] at e3; cases e3
        rw [hn]; exact h4
      have e : (fillF a (dstsF ops) 0 vs).tmps[dj]?.getD undef = vs j := by
        rw [fillF_at vs _ a 0 j dj hN hj hjn, Nat.zero_add]; rfl
      rw [e]
      unfold depF at hdep
      obtain ⟨x, hx, hy⟩ := Array.any_eq_true'.1 hdep
      rw [Bool.and_eq_true, beq_iff_eq] at hy
      have := hall x hx hy.1
      rw [hy.2] at this
      exact hR j this
    · intro t ht
      rcases slot_of (ds := dstsF ops) (t := t) with hfar | ⟨j, hj⟩
      · rw [fillF_far vs _ a 0 t hfar]
      · have hin : (dstsF ops).contains (some t) = true := List.contains_iff_mem.2 (List.mem_of_getElem? hj)
        have htn : t < a.tmps.size := by
          obtain ⟨o2, ho2, e2⟩ : ∃ o2, ops[j]? = some o2 ∧ o2.dst = some t := by
            have hj2 := hj
            unfold dstsF at hj2
            rw [List.getElem?_map, Array.getElem?_toList] at hj2
            cases h : ops[j]? with
            | none => rw [h] at hj2; cases hj2
            | some o2 => rw [h] at hj2; simp at hj2; exact ⟨o2, rfl, hj2⟩
          obtain ⟨d2, e3, _, h4, _⟩ := hds j o2 ho2
          rw [e2] at e3; cases e3
          rw [hn]; exact h4
        unfold oldF at ht
        rw [hin, Bool.not_true, Bool.false_or] at ht
        obtain ⟨j2, _, hx⟩ := List.any_eq_true.1 ht
        cases ho2 : ops.toList[j2]? with
        | none => rw [ho2] at hx; cases hx
        | some o2 =>
          rw [ho2] at hx
          cases hd2 : (dstsF ops)[j2]? with
          | none => rw [hd2] at hx; cases hx
          | some y =>
            rw [hd2] at hx
            cases y with
            | none => cases hx
            | some d2 =>
              simp only [Bool.and_eq_true, beq_iff_eq] at hx
              obtain ⟨hdt, hdep⟩ := hx
              subst hdt
              have hun : listed.getD j2 false = false := by
                cases hl : listed.getD j2 false with
                | false => rfl
                | true =>
                  exfalso
                  have := hL j2 hl
                  unfold depF at hdep
                  obtain ⟨x, hx1, hx2⟩ := Array.any_eq_true'.1 hdep
                  rw [Bool.and_eq_true, beq_iff_eq] at hx2
                  have h5 := this o2 (by rw [← Array.getElem?_toList]; exact ho2) x hx1 hx2.1
                  rw [hx2.2] at h5
                  have h6 : listed.getD i true = true := by
                    rw [Array.getD_eq_getD_getElem?] at h5 ⊢
                    cases hq : listed[i]? with
                    | none => rfl
                    | some b => rw [hq] at h5; exact h5
                  rw [h6] at h1; cases h1
              rw [fillF_at vs _ a 0 j2 d2 hN hd2 htn, Nat.zero_add]
              exact hO j2 d2 hd2 hun
    · intro v w' hC' hb hRi
      rw [hd, fillF_put hN hdi]
      refine ih _ _ w' (by simpa using hs) ?_ hC' ?_ ?_ ?_
      · have : cntF ops (listed.setIfInBounds i true) < cntF ops listed := by
          unfold cntF
          refine filter_lt (i := i) (fun x hx => ?_) (List.mem_range.2 hlt) (by rw [h1]; rfl) ?_
          · by_cases hxi : i = x
            · subst hxi; rw [h1]; rfl
            · rwa [getD_set_ne true hxi] at hx
          · simp [hs, hlt]
        omega
      · intro j hj
        unfold updF
        by_cases hji : j = i
        · subst hji; rw [if_pos rfl]; exact hRi
        · rw [if_neg hji]
          rw [getD_set_ne false (fun e => hji e.symm)] at hj
          have hjl : j < ops.size := by
            rcases Nat.lt_or_ge j ops.size with h | h
            · exact h
            · have e : listed[j]? = none := Array.getElem?_eq_none (by omega)
              rw [Array.getD_eq_getD_getElem?, e] at hj; cases hj
          have := hops.at (i := j) (o := ops[j]) (by rw [Array.getElem?_toList]; simp [hjl])
          rw [Nat.zero_add] at this
          exact this.1 _ _ _ (hR j hj) hb
      · intro j d2 hj hf
        have hij : i ≠ j := by
          intro e
          subst e
          simp [hs, hlt] at hf
        unfold updF
        rw [if_neg (fun e => hij e.symm)]
        rw [getD_set_ne false hij] at hf
        exact hO j d2 hj hf
      · intro j hj o2 ho2 x hx hbx
        by_cases hji : j = i
        · subst hji
          rw [ho] at ho2
          cases ho2
          exact getD_set_true (hall x hx hbx)
        · rw [getD_set_ne false (fun e => hji e.symm)] at hj
          exact getD_set_true (hL j hj o2 ho2 x hx hbx)

/-- the region's law -/
theorem wp_region_rel2 {id : Nat} {a : Act} {w : World} {l : List Oper} (C : World → Prop) (ds : List (Option Tmp)) (Rs : List (Value → World → Prop)) (n : Nat) (hm : P.follows .mixedOrders = true) (hB : relB l.toArray n = true) (hds : l.map (·.dst) = ds) (hn : a.tmps.size = n) (hC : C { w with drawn := w.drawn + 1 })
    (hops : OpsOk2 P Q C (fun i => Rs.getD i (fun _ _ => False)) a ds l 0 l)
    (hend : ∀ vs w, C w → Hid (∀ j, j < ds.length → Rs.getD j (fun _ _ => False) (vs j) w) → Q .normal (fillF a ds 0 vs) w) : (Code.region id l.toArray true).wp P Q a w := by
  refine wp_region_any hm ?_
  subst hds
  have hN : (dstsF l.toArray).Nodup := by
    unfold relB at hB
    simp only [Bool.and_eq_true, decide_eq_true_eq] at hB
    exact hB.1.2
  have := wpAny_rel2 (P := P) (Q := Q) (C := C) (a := a) (R := fun i => Rs.getD i (fun _ _ => False)) hB hn hops (fun vs w hc h => hend vs w hc (fun j hj => h j (by simpa using hj))) l.toArray.size (Array.replicate l.toArray.size false) (fun i => match (dstsF l.toArray)[i]? with | some (some t) => a.tmps.getD t undef | _ => undef) { w with drawn := w.drawn + 1 } (by simp) (by
    unfold cntF
    exact Nat.le_trans (List.length_filter_le _ _) (by simp)) hC (fun j hj => by
      exfalso
      by_cases h : j < l.length
      · simp [h] at hj
      · simp [h] at hj) (fun j d hj _ => by rw [hj]; simp only; rw [Array.getD_eq_getD_getElem?]) (fun j hj => by
      exfalso
      by_cases h : j < l.length
      · simp [h] at hj
      · simp [h] at hj)
  exact Eq.mp (congrArg (fun b => wpAny P .any l.toArray Q l.toArray.size (Array.replicate l.toArray.size false) b { w with drawn := w.drawn + 1 }) (fillF_own hN a)) this
end
end Go.Proofs.Ytgioifdmmneapaa
