/-
  Regions that draw their order, by what holds whatever has been done so far: one walk for each operation serves all orders. No program is named here. Conditions: those in the theorem's own statement.
-/
import Derived.Test.YtiickcdkibcdpaaDoorProg
import Derived.WalkKit
import Derived.RegionTactic
namespace Go.Proofs.YtiickcdkibcdpaaDoor
open Go

section
variable {P : Program} {ops : Array Oper} {Q : Exit → Act → World → Prop}
/-- what stands behind one operation: K in the plain case -/
def behind (Q : Exit → Act → World → Prop) (K : Act → World → Prop) : Exit → Act → World → Prop
  | .normal, a, w => K a w
  | x, a, w => Q x a w
theorem behind_normal (K : Act → World → Prop) (a : Act) (w : World) : behind Q K .normal a w = K a w := rfl
theorem upon_behind (o : Oper) (a : Act) (next K : Act → World → Prop) (r : Result Next) : o.upon P a next (behind Q K) r = o.upon P a next Q r := by
  cases r with
  | ok n w' =>
    cases n with
    | enter f args =>
      show Calls P f args w' _ = Calls P f args w' _
      congr 1
    | _ => rfl
  | halt h w' => cases h <;> rfl
theorem op_of_list {i : Nat} {o : Oper} {K : Act → World → Prop} {a : Act} {W : World} (hi : ops[i]? = some o) (h : wpList P ops (behind Q K) [o] a W) : wpOp P ops Q i K a W := by
  unfold wpOp
  rw [hi]
  simp only [wpList] at h ⊢
  split
  · rename_i hw
    rw [if_pos hw] at h
    unfold Oper.wp at h ⊢
    rw [upon_behind] at h
    exact h
  · rename_i hw
    rw [if_neg hw] at h
    exact h
/-- operation i keeps what holds -/
def Keeps (P : Program) (ops : Array Oper) (Q : Exit → Act → World → Prop) (I : Array Bool → Act → World → Prop) (i : Nat) : Prop :=
  ∀ o, ops[i]? = some o → ∀ listed a W, I listed a W → (∀ e ∈ o.after, Region.binds .any e = true → listed.getD e.on false = true) → listed.getD i true = false →
    ∀ K : Act → World → Prop, (∀ a' W', I (listed.setIfInBounds i true) a' W' → K a' W') → wpList P ops (behind Q K) [o] a W
def downB (ops : Array Oper) : Bool := (List.range ops.size).all fun i => match ops[i]? with | some o => o.after.all fun e => !(Region.binds .any e) || decide (e.on < i) | none => true
theorem all_done {listed : Array Bool} (hd : downB ops = true) (hr : Region.ready .any ops listed = []) : ∀ j, j < ops.size → listed.getD j true = true := by
  intro j
  induction j using Nat.strongRecOn with
  | _ j ih =>
    intro hj
    rcases h : listed.getD j true with _ | _
    · exfalso
      have hm : j ∈ Region.ready .any ops listed := by
        refine mem_ready.2 ⟨h, ops[j], Array.getElem?_eq_getElem hj, fun e he hb => ?_⟩
        have h1 := List.all_eq_true.1 hd j (List.mem_range.2 hj)
        rw [Array.getElem?_eq_getElem hj] at h1
        have h2 := Array.all_eq_true_iff_forall_mem.1 h1 e he
        rw [hb] at h2
        have h3 : e.on < j := by simpa using h2
        have h4 := ih e.on h3 (by omega)
        rcases Nat.lt_or_ge e.on listed.size with h5 | h5
        · simpa [h5] using h4
        · exfalso
          have : listed.getD j true = true := by simp [Array.getElem?_eq_none (show listed.size ≤ j by omega)]
          rw [this] at h; cases h
      rw [hr] at hm; cases hm
    · rfl
theorem left_less {l : List Bool} {i : Nat} (h : l[i]? = some false) : (l.set i true).count false + 1 = l.count false := by
  induction l generalizing i with
  | nil => simp at h
  | cons b l ih =>
    cases i with
    | zero => simp at h; subst h; simp
    | succ i =>
      have := ih (i := i) (by simpa using h)
      simp only [List.set_cons_succ, List.count_cons]
      omega
theorem any_of_keeps {I : Array Bool → Act → World → Prop} (hd : downB ops = true) (hk : ∀ i, i < ops.size → Keeps P ops Q I i)
    (done : ∀ listed a W, (∀ j, j < ops.size → listed.getD j true = true) → I listed a W → Q .normal a W) :
    ∀ (fuel : Nat) (listed : Array Bool) (a : Act) (W : World), listed.toList.count false ≤ fuel → I listed a W → wpAny P .any ops Q fuel listed a W
  | 0, listed, a, W, hf, hI => by
    have hr : Region.ready .any ops listed = [] := by
      rcases hl : Region.ready .any ops listed with _ | ⟨j, r⟩
      · rfl
      · have hj : j ∈ Region.ready .any ops listed := by rw [hl]; exact List.mem_cons_self
        have h1 := (mem_ready.1 hj).1
        have h2 : listed[j]? = some false := by
          rcases Nat.lt_or_ge j listed.size with h5 | h5
          · simp [h5] at h1 ⊢; exact h1
          · simp [Array.getElem?_eq_none h5] at h1
        have h3 := left_less (l := listed.toList) (i := j) (by simpa using h2)
        omega
    exact ⟨hr, done _ _ _ (all_done hd hr) hI⟩
  | fuel + 1, listed, a, W, hf, hI => by
    refine ⟨fun hr => done _ _ _ (all_done hd hr) hI, fun i hi => ?_⟩
    obtain ⟨h1, o, ho, hdep⟩ := mem_ready.1 hi
    have h2 : listed[i]? = some false := by
      rcases Nat.lt_or_ge i listed.size with h5 | h5
      · simp [h5] at h1 ⊢; exact h1
      · simp [Array.getElem?_eq_none h5] at h1
    have h3 := left_less (l := listed.toList) (i := i) (by simpa using h2)
    refine op_of_list ho (hk i (Array.getElem?_eq_some_iff.1 ho).1 o ho listed a W hI hdep h1 _ fun a' W' h' => ?_)
    exact any_of_keeps hd hk done fuel _ a' W' (by simp; omega) h'
/-- what has been done, and one more -/
def more (L : Nat → Bool) (i : Nat) : Nat → Bool := fun k => (k == i) || L k
/-- what must have come before -/
def wants (o : Oper) (k : Nat) : Bool := o.after.any fun e => Region.binds .any e && e.on == k
/-- operation o, number i, keeps what holds -/
def KeepsOp (P : Program) (ops : Array Oper) (Q : Exit → Act → World → Prop) (I : (Nat → Bool) → Act → World → Prop) (i : Nat) (o : Oper) : Prop :=
  ∀ L a W, I L a W → (∀ k, wants o k = true → L k = true) → L i = false → ∀ K : Act → World → Prop, (∀ a' W', I (more L i) a' W' → K a' W') → wpList P ops (behind Q K) [o] a W
def KeepsAll (P : Program) (ops : Array Oper) (Q : Exit → Act → World → Prop) (I : (Nat → Bool) → Act → World → Prop) : Nat → List Oper → Prop
  | _, [] => True
  | i, o :: r => KeepsOp P ops Q I i o ∧ KeepsAll P ops Q I (i + 1) r
theorem keeps_nil {I : (Nat → Bool) → Act → World → Prop} {i : Nat} : KeepsAll P ops Q I i [] := trivial
theorem keeps_cons {I : (Nat → Bool) → Act → World → Prop} {i : Nat} {o : Oper} {r : List Oper} (h : KeepsOp P ops Q I i o) (k : KeepsAll P ops Q I (i + 1) r) : KeepsAll P ops Q I i (o :: r) := ⟨h, k⟩
theorem keeps_at {I : (Nat → Bool) → Act → World → Prop} : ∀ (l : List Oper) (i : Nat), KeepsAll P ops Q I i l → ∀ j o, l[j]? = some o → KeepsOp P ops Q I (i + j) o
  | [], _, _, j, o, ho => by simp at ho
  | o' :: r, i, h, 0, o, ho => by simp at ho; subst ho; exact h.1
  | o' :: r, i, h, j + 1, o, ho => by
    have := keeps_at r (i + 1) h.2 j o (by simpa using ho)
    rwa [show i + 1 + j = i + (j + 1) by omega] at this
def didOf (listed : Array Bool) : Nat → Bool := fun k => listed.getD k false
theorem did_more {listed : Array Bool} {i : Nat} (h : i < listed.size) : didOf (listed.setIfInBounds i true) = more (didOf listed) i := by
  funext k
  unfold didOf more
  by_cases e : k = i
  · subst e; simp [h]
  · simp [Ne.symm e, e]
/-- A REGION THAT DRAWS ITS ORDER, by what holds at every point of every order -/
theorem region_keeps {id : Nat} {a : Act} {w : World} {l : List Oper} (I : (Nat → Bool) → Act → World → Prop) (hm : P.follows .mixedOrders = true) (hd : downB l.toArray = true)
    (start : I (fun _ => false) a { w with drawn := w.drawn + 1 }) (hk : ∀ Q, KeepsAll P l.toArray Q I 0 l)
    (done : ∀ L a W, (∀ j, j < l.length → L j = true) → I L a W → Q .normal a W) : (Code.region id l.toArray true).wp P Q a w := by
  refine wp_region_any hm (any_of_keeps (I := fun listed a W => listed.size = l.length ∧ I (didOf listed) a W) hd (fun i hi o ho listed a W hI hdep hun K hK => ?_) (fun listed a W hall hI => ?_) _ _ a _ ?_ ?_)
  · have hil : i < listed.size := by rw [hI.1]; simpa using hi
    have h := keeps_at l 0 (hk Q) i o (by simpa using ho)
    rw [Nat.zero_add] at h
    refine h (didOf listed) a W hI.2 (fun k hw => ?_) ?_ K fun a' W' h' => hK a' W' ⟨by simpa using hI.1, by rw [did_more hil]; exact h'⟩
    · obtain ⟨e, he, h2⟩ := Array.any_eq_true'.1 hw
      simp only [Bool.and_eq_true, beq_iff_eq] at h2
      rw [← h2.2]
      exact hdep e he h2.1
    · unfold didOf
      simpa [hil] using hun
  · refine done _ a W (fun j hj => ?_) hI.2
    have h := hall j (by simpa using hj)
    have hjl : j < listed.size := by rw [hI.1]; exact hj
    unfold didOf
    simpa [hjl] using h
  · simp
  · refine ⟨by simp, ?_⟩
    have e : didOf (Array.replicate l.toArray.size false) = fun _ => false := by
      funext k
      unfold didOf
      by_cases h : k < l.length <;> simp [h]
    rw [e]; exact start
end
end Go.Proofs.YtiickcdkibcdpaaDoor
