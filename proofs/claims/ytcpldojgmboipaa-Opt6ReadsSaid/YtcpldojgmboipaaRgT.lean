/-
  A region that draws its order and ends in operations that wait for all the others: the first ones by what each operation's value is, in any order, the last ones in their one order (they may write what they will). No program is named here. Conditions: those of each theorem's own statement.
-/
import Derived.Test.YtcpldojgmboipaaTbRg
import Derived.StillTail
namespace Go.Proofs.Ytcpldojgmboipaa
open Go Go.RowKit

section
variable {P : Program} {ops : Array Oper} {Q : Exit → Act → World → Prop}
theorem wpAny_seq_le : ∀ (l : List Oper) (k fuel : Nat) (listed : Array Bool) (a : Act) (w : World), (∀ j, l[j]? = ops[k + j]?) →
    Region.seqB .any ops l.length k listed = true → l.length ≤ fuel → wpList P ops Q l a w → wpAny P .any ops Q fuel listed a w
  | [], _, fuel, listed, _, _, _, hB, _, h => by
    have hr : Region.ready .any ops listed = [] := by simpa [Region.seqB] using hB
    cases fuel with
    | zero => exact ⟨hr, h⟩
    | succ f => exact ⟨fun _ => h, fun i hi => by rw [hr] at hi; cases hi⟩
  | o :: l, k, fuel, listed, a, w, hl, hB, hf, h => by
    have h0 : ops[k]? = some o := by simpa using (hl 0).symm
    simp only [List.length_cons, Region.seqB, Bool.and_eq_true, decide_eq_true_eq] at hB
    cases fuel with
    | zero => simp at hf
    | succ f =>
      refine ⟨fun h1 => (by rw [hB.1] at h1; cases h1), fun i hi => ?_⟩
      rw [hB.1] at hi
      have hik : i = k := by simpa using hi
      subst hik
      have hw : wpOp P ops Q i (wpList P ops Q l) a w := by unfold wpOp; simp only [h0]; exact h
      exact wpOp_mono (fun a' w' h' => wpAny_seq_le l (i + 1) f _ a' w' (fun j => by have := hl (j + 1); simpa [Nat.add_assoc, Nat.add_comm 1 j] using this) hB.2 (by simpa using hf) h') hw

/-- how many of the first ones are left -/
def cntH (m : Nat) (listed : Array Bool) : Nat := ((List.range m).filter fun i => !listed.getD i true).length
/-- all of the first ones are done, none of the last ones -/
def doneH (m g : Nat) : Array Bool := (List.replicate m true ++ List.replicate g false).toArray
theorem done_eq {m g : Nat} {listed : Array Bool} (hs : listed.size = m + g) (h1 : ∀ j, j < m → listed.getD j false = true) (h2 : ∀ t, m ≤ t → t < m + g → listed.getD t true = false) : listed = doneH m g := by
  apply Array.ext_getElem?
  intro j
  unfold doneH
  have e : (List.replicate m true ++ List.replicate g false).toArray[j]? = (List.replicate m true ++ List.replicate g false)[j]? := by simp
  rw [e]
  rcases Nat.lt_or_ge j m with h | h
  · rw [List.getElem?_append_left (by simpa using h), List.getElem?_replicate, if_pos h]
    have := h1 j h
    have hj : j < listed.size := by omega
    simp [hj] at this
    simp [hj, this]
  · rw [List.getElem?_append_right (by simpa using h), List.length_replicate, List.getElem?_replicate]
    split
    · rename_i k
      have := h2 j h (by omega)
      have hj : j < listed.size := by omega
      simp [hj] at this
      simp [hj, this]
    · exact Array.getElem?_eq_none (by omega)

theorem wpAny_relT {l : List Oper} {m n g : Nat} (hl : l.length = m + g) (hg : 0 < g) (hB : relB (l.take m).toArray n = true) (hs : Region.sinkB .any l.toArray m = true) (hc : Region.chainB .any l.toArray m = true)
    (hq : Region.seqB .any l.toArray g m (doneH m g) = true) {C : World → Prop} {R : Nat → Value → World → Prop} {a : Act} (hn : a.tmps.size = n)
    (hops : OpsOk P l.toArray Q C R a (dstsF (l.take m).toArray) 0 (l.take m))
    (hend : ∀ vs w, C w → (∀ j : Nat, j < m → R j (vs j) w) → wpList P l.toArray Q (l.drop m) (fillF a (dstsF (l.take m).toArray) 0 vs) w) :
    ∀ (fuel : Nat) (listed : Array Bool) (vs : Nat → Value) (w : World), HeadInv .any l.toArray m listed → cntH m listed + g ≤ fuel → C w → (∀ j, j < m → listed.getD j false = true → R j (vs j) w) →
      wpAny P .any l.toArray Q fuel listed (fillF a (dstsF (l.take m).toArray) 0 vs) w := by
  unfold relB at hB
  simp only [Bool.and_eq_true, decide_eq_true_eq] at hB
  obtain ⟨⟨hG, hN⟩, hE⟩ := hB
  have htl : (l.take m).length = m := by simp; omega
  have hat : ∀ i, i < m → (l.take m).toArray[i]? = l.toArray[i]? := fun i hi => by simp [hi]
  have hds : ∀ (i : Nat) (o : Oper), i < m → l.toArray[i]? = some o → ∃ d, o.dst = some d ∧ (dstsF (l.take m).toArray)[i]? = some (some d) ∧ d < n := by
    intro i o hi ho
    rw [← hat i hi] at ho
    have hm : o ∈ (l.take m).toArray.toList := by
      obtain ⟨h1, h2⟩ := Array.getElem?_eq_some_iff.1 ho
      rw [← h2]; exact Array.getElem_mem_toList h1
    have h2 := List.all_eq_true.1 hG o hm
    cases hd : o.dst with
    | none => rw [hd] at h2; cases h2
    | some d =>
      rw [hd] at h2
      refine ⟨d, rfl, ?_, by simpa using h2⟩
      unfold dstsF
      rw [List.getElem?_map, Array.getElem?_toList, ho]
      simp [hd]
  have hedge : ∀ (i : Nat) (o : Oper), i < m → l.toArray[i]? = some o → ∀ e ∈ o.after, Region.binds .any e = true → e.on < i := by
    intro i o hi ho e he hb
    rw [← hat i hi] at ho
    have hlt : i < (l.take m).toArray.size := (Array.getElem?_eq_some_iff.1 ho).1
    have := List.all_eq_true.1 hE i (List.mem_range.2 hlt)
    rw [ho] at this
    have := Array.all_eq_true_iff_forall_mem.1 this e he
    rw [hb] at this
    simpa using this
  have hsz : l.toArray.size = m + g := by simpa using hl
  have hnn : m < l.toArray.size := by omega
  have allOf : ∀ listed : Array Bool, listed.size = l.toArray.size → Region.ready .any l.toArray listed = [] → ∀ j, j < m → listed.getD j false = true := by
    intro listed hs hr j
    induction j using Nat.strongRecOn with
    | ind j ih =>
      intro hj
      have hjl : j < l.toArray.size := by omega
      cases hx : listed.getD j true with
      | true => simpa [hs ▸ hjl] using hx
      | false =>
        exfalso
        have : j ∈ Region.ready .any l.toArray listed := mem_ready.2 ⟨hx, l.toArray[j], by rw [Array.getElem?_eq_getElem hjl], fun e he hb => by
          have := hedge j _ hj (by rw [Array.getElem?_eq_getElem hjl]) e he hb
          exact ih e.on this (by omega)⟩
        rw [hr] at this; cases this
  have fin : ∀ (fuel : Nat) (listed : Array Bool) (vs : Nat → Value) (w : World), HeadInv .any l.toArray m listed → g ≤ fuel → C w → (∀ j, j < m → listed.getD j false = true) → (∀ j, j < m → listed.getD j false = true → R j (vs j) w) →
      wpAny P .any l.toArray Q fuel listed (fillF a (dstsF (l.take m).toArray) 0 vs) w := by
    intro fuel listed vs w inv hf hC hall hR
    have e : listed = doneH m g := done_eq (by rw [inv.size]; exact hsz) hall (fun t h1 h2 => inv.tail t h1 (by omega))
    have hdl : (l.drop m).length = g := by simp; omega
    refine wpAny_seq_le (l.drop m) m fuel listed _ w (fun j => by simp [List.getElem?_drop]) (by rw [hdl, e]; exact hq) (by omega) (hend vs w hC (fun j hj => hR j hj (hall j hj)))
  intro fuel
  induction fuel with
  | zero => intro listed vs w inv hc'; omega
  | succ fuel ih =>
    intro listed vs w inv hcn hC hR
    by_cases hall : ∀ j, j < m → listed.getD j false = true
    · exact fin _ listed vs w inv (by omega) hC hall hR
    · obtain ⟨j0, hj0, hu0⟩ : ∃ j, j < m ∧ listed.getD j false = false := by
        by_cases h : ∃ j, j < m ∧ listed.getD j false = false
        · exact h
        · exfalso
          refine hall (fun j hj => ?_)
          cases e : listed.getD j false with
          | true => rfl
          | false => exact absurd ⟨j, hj, e⟩ h
      refine ⟨fun hr => absurd (allOf listed inv.size hr) hall, fun i hi => ?_⟩
      have him : i < m := by
        rcases Nat.lt_or_ge i m with h | h
        · exact h
        · exact absurd hi (tail_waits hs hc hnn inv _ j0 rfl hj0 (getD_in (by rw [inv.size]; omega) hu0) i h)
      obtain ⟨h1, o, ho, hwait⟩ := mem_ready.1 hi
      obtain ⟨d, hd, hdi, hdn⟩ := hds i o him ho
      have OK := hops.at (i := i) (o := o) (by rw [List.getElem?_take, if_pos him]; simpa using ho)
      rw [Nat.zero_add] at OK
      unfold wpOp
      rw [ho]
      have use : ∀ {K : Act → World → Prop}, (if Region.wanted o (yielded l.toArray (fillF a (dstsF (l.take m).toArray) 0 vs).tmps) = true then o.wp P (fillF a (dstsF (l.take m).toArray) 0 vs) w K Q else K ((fillF a (dstsF (l.take m).toArray) 0 vs).put o.dst undef) w) →
          (if Region.wanted o (yielded l.toArray (fillF a (dstsF (l.take m).toArray) 0 vs).tmps) = true then o.wp P (fillF a (dstsF (l.take m).toArray) 0 vs) w K Q ∨ (o.asks P (fillF a (dstsF (l.take m).toArray) 0 vs) w ∧ LetsOut Q) else K ((fillF a (dstsF (l.take m).toArray) 0 vs).put o.dst undef) w) := fun {K} h => by
        by_cases hw : Region.wanted o (yielded l.toArray (fillF a (dstsF (l.take m).toArray) 0 vs).tmps) = true
        · rw [if_pos hw] at h ⊢; exact Or.inl h
        · rw [if_neg hw] at h ⊢; exact h
      refine use (OK.2 _ w _ (fillF_defers _ _ _ _) hC ?_ ?_ ?_)
      · intro j dj hdep hj
        have hjm : j < m := by
          have := (List.getElem?_eq_some_iff.1 hj).1
          unfold dstsF at this
          simp at this
          omega
        have hjn : dj < a.tmps.size := by
          obtain ⟨o2, ho2, e2⟩ : ∃ o2, l.toArray[j]? = some o2 ∧ o2.dst = some dj := by
            unfold dstsF at hj
            rw [List.getElem?_map, Array.getElem?_toList, hat j hjm] at hj
            cases h : l.toArray[j]? with
            | none => rw [h] at hj; cases hj
            | some o2 => rw [h] at hj; simp at hj; exact ⟨o2, rfl, hj⟩
          obtain ⟨d2, e3, _, h4⟩ := hds j o2 hjm ho2
          rw [e2] at e3; cases e3
          rw [hn]; exact h4
        have e : (fillF a (dstsF (l.take m).toArray) 0 vs).tmps[dj]?.getD undef = vs j := by
          rw [fillF_at vs _ a 0 j dj hN hj hjn, Nat.zero_add]; rfl
        rw [e]
        unfold depF at hdep
        obtain ⟨x, hx, hy⟩ := Array.any_eq_true'.1 hdep
        rw [Bool.and_eq_true, beq_iff_eq] at hy
        have := hwait x hx hy.1
        rw [hy.2] at this
        exact hR j hjm this
      · intro t ht
        rw [fillF_far vs _ a 0 t (by intro hm; rw [List.contains_iff_mem.2 hm] at ht; cases ht)]
      · intro v w' hC' hb hRi
        rw [hd, fillF_put hN hdi]
        refine ih _ _ w' (inv.set hi him) ?_ hC' ?_
        · have : cntH m (listed.setIfInBounds i true) < cntH m listed := by
            unfold cntH
            refine filter_lt (i := i) (fun x hx => ?_) (List.mem_range.2 him) (by rw [h1]; rfl) ?_
            · by_cases hxi : i = x
              · subst hxi; rw [h1]; rfl
              · rwa [getD_set_ne true hxi] at hx
            · have : i < listed.size := by rw [inv.size]; omega
              simp [this]
          omega
        · intro j hjm hj
          unfold updF
          by_cases hji : j = i
          · subst hji; rw [if_pos rfl]; exact hRi
          · rw [if_neg hji]
            rw [getD_set_ne false (fun e => hji e.symm)] at hj
            have := hops.at (i := j) (o := l[j]'(by omega)) (by rw [List.getElem?_take, if_pos hjm, List.getElem?_eq_getElem])
            rw [Nat.zero_add] at this
            exact this.1 _ _ _ (hR j hjm hj) hb
/-- the region's law -/
theorem wp_region_relT {id : Nat} {a : Act} {w : World} {l : List Oper} (m g : Nat) (C : World → Prop) (ds : List (Option Tmp)) (Rs : List (Value → World → Prop)) (n : Nat) (hm : P.follows .mixedOrders = true) (hl : l.length = m + g) (hg : 0 < g) (hB : relB (l.take m).toArray n = true)
    (hs : (Region.sinkB .any l.toArray m && Region.chainB .any l.toArray m && Region.seqB .any l.toArray g m (doneH m g)) = true) (hds : (l.take m).map (·.dst) = ds) (hn : a.tmps.size = n) (hC : C { w with drawn := w.drawn + 1 })
    (hops : OpsOk P l.toArray Q C (fun i => Rs.getD i (fun _ _ => False)) a ds 0 (l.take m))
    (hend : ∀ vs w, C w → Hid (∀ j, j < ds.length → Rs.getD j (fun _ _ => False) (vs j) w) → wpList P l.toArray Q (l.drop m) (fillF a ds 0 vs) w) : (Code.region id l.toArray true).wp P Q a w := by
  refine wp_region_any hm ?_
  subst hds
  rw [Bool.and_eq_true, Bool.and_eq_true] at hs
  have hN : (dstsF (l.take m).toArray).Nodup := by
    unfold relB at hB
    simp only [Bool.and_eq_true, decide_eq_true_eq] at hB
    exact hB.1.2
  have hlen : ((l.take m).map (·.dst)).length = m := by simp; omega
  have inv0 : HeadInv .any l.toArray m (Array.replicate l.toArray.size false) :=
    ⟨by simp, fun j oj _ hl => (by rw [getD_replicate_false] at hl; cases hl), fun t _ ht => getD_in (by simpa using ht) (getD_replicate_false _ _)⟩
  obtain ⟨vs0, hv0⟩ : ∃ vs, fillF a (dstsF (l.take m).toArray) 0 vs = a := ⟨_, fillF_own hN a⟩
  have := wpAny_relT (P := P) (Q := Q) (C := C) (a := a) (R := fun i => Rs.getD i (fun _ _ => False)) hl hg hB hs.1.1 hs.1.2 hs.2 hn hops (fun vs w hc h => hend vs w hc (fun j hj => h j (by rw [hlen] at hj; exact hj))) l.toArray.size (Array.replicate l.toArray.size false) vs0 { w with drawn := w.drawn + 1 } inv0 (by
    unfold cntH
    have := List.length_filter_le (fun i => !(Array.replicate l.toArray.size false).getD i true) (List.range m)
    simp at this ⊢
    omega) hC (fun j _ hj => by
      exfalso
      rw [getD_replicate_false] at hj
      cases hj)
  rwa [hv0] at this
end
end Go.Proofs.Ytcpldojgmboipaa
