/-
  Rows of bytes of a call's own, and where an append leaves them; a map from bytes to slices of bytes: what looking up and putting do. Conditions: a row takes at most 2^47 bytes.
-/
import Derived.Test.YtmoklodaeicpgaaOpF
import Derived.Maps.OwnSet
import Derived.Maps.RangeWalk
import Derived.Sort.KeysCollected
import Derived.WalkArith
import Derived.OpenShut
import Derived.IntWalk
import Derived.Deep.RegionLaw
namespace Go.Proofs.Ytmoklodaeicpgaa
open Go.RowKit Go.Joins Go.Maps

/-! ### rows of bytes -/
def cellsB (l : List UInt8) : List Value := l.map byteV
theorem cellsB_len (l : List UInt8) : (cellsB l).length = l.length := by unfold cellsB; rw [List.length_map]
theorem cellsB_append (l m : List UInt8) : cellsB (l ++ m) = cellsB l ++ cellsB m := by unfold cellsB; rw [List.map_append]
abbrev OwnB (w : World) (base : Nat) (v : Value) (l : List UInt8) : Prop := w.ownsRow base 5 1 v l.length (cellsB l)
/-- where the new slice of an append lies -/
def Lies (w : World) (v v2 : Value) : Prop := v2.ownBlock = v.ownBlock ∨ ∃ g, v2.ownBlock = some g ∧ w.heap.size ≤ g
theorem ownB_nil (w : World) (base : Nat) : OwnB w base (.slice none 0 0) [] := World.ownsRow_nil w base _ _
theorem ownB_len {w : World} {base : Nat} {v : Value} {l : List UInt8} (h : OwnB w base v l) : ∃ p c, v = .slice p l.length c := by
  rcases h.2 with ⟨rfl, h0⟩ | ⟨g, cap, cur, rfl, _⟩
  · exact ⟨none, 0, by rw [h0]⟩
  · exact ⟨_, cap, rfl⟩
theorem run_append_B (w : World) (ty : TypeId) (base : Nat) (v : Value) (l : List UInt8) (hown : OwnB w base v l) (s : ByteArray) (hn : l.length + s.size ≤ 140737488355328) (hbase : base ≤ w.heap.size) :
    ∃ v2 w2, (Builtin.append_ #[39, 9] ty #[v, .string s]).run Try.prog w = .ok v2 w2 ∧ OwnB w2 base v2 (l ++ lb s) ∧ w.grownBy w2 v.ownBlock ∧ Lies w v v2 := by
  obtain ⟨i0, hi, hz0, hz1, hz2⟩ := info_parts infoB
  obtain ⟨v2, w2, hr, h2, h3, h4⟩ := Lib.run_append_own_string (P := Try.prog) w base 39 9 ty 5 i0 Try.underlying39 Try.underlying9 hi hz0 hz1 hz2 v l.length (cellsB l) hown s (by unfold maxLen; omega) hn hbase
  refine ⟨v2, w2, hr, ?_, h3, ?_⟩
  · unfold OwnB
    rw [List.length_append, lb_len, cellsB_append]
    exact h2
  · rcases hown.2 with ⟨rfl, h0⟩ | ⟨g, cap, cur, rfl, hb, hg, hnc, hcm, hcs, ht⟩
    · have hl0 : l = [] := List.length_eq_zero_iff.1 h0
      subst hl0
      obtain ⟨v3, w3, hr3, k2, _, _⟩ := Lib.run_append_own_string (P := Try.prog) w w.heap.size 39 9 ty 5 i0 Try.underlying39 Try.underlying9 hi hz0 hz1 hz2 (.slice none 0 0) 0 [] (World.ownsRow_nil w w.heap.size _ 1) s (by unfold maxLen; simp at hn; omega) (by simp at hn; omega) (Nat.le_refl _)
      rw [hr] at hr3
      cases hr3
      cases hv : v2.ownBlock with
      | none => left; rw [hv]; rfl
      | some g => right; exact ⟨g, hv, (k2.lt g hv).1⟩
    · by_cases hroom : l.length + s.size ≤ cap
      · have hr2 := Lib.run_append_room_string (P := Try.prog) w 39 9 ty 5 i0 Try.underlying39 Try.underlying9 hi hz1 g l.length cap cur hg s hroom (by omega)
        rw [hr] at hr2
        cases hr2
        left; rfl
      · have hr2 := Lib.run_append_grow_string (P := Try.prog) w 39 9 ty 5 i0 (.int .u8 0) Try.underlying39 Try.underlying9 hi hz0 ⟨g, 0, none⟩ l.length cap (cellsB l) (by rw [hz1, cellsB_len]; omega) (hown.cells (g := g) rfl) s (by omega) (by omega) (by rw [hz2]; exact growslice_fits (by omega) (by omega))
        rw [hr] at hr2
        cases hr2
        right; exact ⟨_, rfl, Nat.le_refl _⟩
theorem wp_append_B {w : World} {o : Oper} {a : Act} {K : Act → World → Prop} {Q : Exit → Act → World → Prop} (s x : Operand)
    (ho : o.op = .call { callee := .builtin .append, args := #[s, x], argTypes := #[39, 9] })
    (base : Nat) (v : Value) (l : List UInt8) (hs : a.eval s = v) (hown : OwnB w base v l) (p : ByteArray) (hx : a.eval x = .string p) (hn : l.length + p.size ≤ 140737488355328) (hbase : base ≤ w.heap.size)
    (h : ∀ v2 w2, OwnB w2 base v2 (l ++ lb p) → w.grownBy w2 v.ownBlock → Lies w v v2 → K (a.put o.dst v2) w2) : o.wp Try.prog a w K Q := by
  obtain ⟨v2, w2, hr, h2, h3, h4⟩ := run_append_B w o.type base v l hown p hn hbase
  unfold Oper.wp execOp
  simp only [ho, resolve, invoke, builtin, Sem.run_bind, Sem.run_pure, Result.andThen_ok, List.map_toArray, List.map_cons, List.map_nil, hs, hx, hr]
  exact h v2 w2 h2 h3 h4
theorem wpList_append_B {w : World} {ops : Array Oper} {rest : List Oper} {o : Oper} {a : Act} {Q : Exit → Act → World → Prop} (hgd : o.guard = none) (s x : Operand)
    (ho : o.op = .call { callee := .builtin .append, args := #[s, x], argTypes := #[39, 9] })
    (base : Nat) (v : Value) (l : List UInt8) (hs : a.eval s = v) (hown : OwnB w base v l) (p : ByteArray) (hx : a.eval x = .string p) (hn : l.length + p.size ≤ 140737488355328) (hbase : base ≤ w.heap.size)
    (h : ∀ v2 w2, OwnB w2 base v2 (l ++ lb p) → w.grownBy w2 v.ownBlock → Lies w v v2 → wpList Try.prog ops Q rest (a.put o.dst v2) w2) : wpList Try.prog ops Q (o :: rest) a w :=
  wpList_plain hgd fun _ hK => wp_append_B s x ho base v l hs hown p hx hn hbase fun v2 w2 h1 h2 h3 => hK _ _ (h v2 w2 h1 h2 h3)
theorem step_append_B {w : World} {ops : Array Oper} {o : Oper} {a : Act} {K : Act → World → Prop} {Q : Exit → Act → World → Prop} {E : Prop} (hgd : o.guard = none) (s x : Operand)
    (ho : o.op = .call { callee := .builtin .append, args := #[s, x], argTypes := #[39, 9] })
    (base : Nat) (v : Value) (l : List UInt8) (hs : a.eval s = v) (hown : OwnB w base v l) (p : ByteArray) (hx : a.eval x = .string p) (hn : l.length + p.size ≤ 140737488355328) (hbase : base ≤ w.heap.size)
    (h : ∀ v2 w2, OwnB w2 base v2 (l ++ lb p) → w.grownBy w2 v.ownBlock → Lies w v v2 → K (a.put o.dst v2) w2) :
    if Region.wanted o (yielded ops a.tmps) = true then Oper.wp Try.prog o a w K Q else E := by
  have hw : Region.wanted o (yielded ops a.tmps) = true := by simp [Region.wanted, hgd]
  rw [if_pos hw]
  exact wp_append_B s x ho base v l hs hown p hx hn hbase h
theorem cellsB_one (l : List UInt8) : ∀ u ∈ cellsB l, u.oneCell' = true := by
  intro u hu
  unfold cellsB at hu
  obtain ⟨x, _, rfl⟩ := List.mem_map.1 hu
  rfl
/-- append of bytes that lie in memory (one at least) -/
theorem wpList_append_bytes {w : World} {ops : Array Oper} {rest : List Oper} {o : Oper} {a : Act} {Q : Exit → Act → World → Prop} (hgd : o.guard = none) (s x : Operand)
    (ho : o.op = .call { callee := .builtin .append, args := #[s, x], argTypes := #[39, 39] })
    (base : Nat) (v : Value) (l : List UInt8) (hs : a.eval s = v) (hown : OwnB w base v l) (b c : Nat) (m : List UInt8) (hx : a.eval x = .slice (some ⟨b, 0, none⟩) m.length c)
    (hl : ∀ j u, (cellsB m)[j]? = some u → w.cell? ((⟨b, 0, none⟩ : Go.Addr).add j) = some u) (hm : 0 < m.length) (hn : l.length + m.length ≤ 140737488355328) (hbase : base ≤ w.heap.size)
    (h : ∀ v2 w2, OwnB w2 base v2 (l ++ m) → w.grownBy w2 v.ownBlock → Lies w v v2 → wpList Try.prog ops Q rest (a.put o.dst v2) w2) : wpList Try.prog ops Q (o :: rest) a w := by
  obtain ⟨i0, hi, hz0, hz1, hz2⟩ := info_parts infoB
  refine wpList_append_lies w hgd s x 39 ho base 5 i0 (.int .u8 0) 1 1 Try.underlying39 hi hz0 hz1 hz2 rfl (by decide) v l.length (cellsB l) hs hown ⟨b, 0, none⟩ m.length c (cellsB m) hx (by rw [cellsB_len]; omega) hl (cellsB_one m) hm (by unfold maxLen; omega) (by omega) hbase _ rfl ?_
  intro g cap w2 h1 h2 h3 _
  refine h _ w2 ?_ h2 ?_
  · unfold OwnB
    rw [List.length_append, cellsB_append]
    exact h1
  · rcases h3 with h3 | h3
    · left; rw [h3]; rfl
    · right; exact ⟨g, rfl, by rw [h3]; exact Nat.le_refl _⟩

/-! ### a map of slices -/
theorem laidOut : laidOutB Try.prog = true := by kernel_rfl
theorem KB : Keyed Try.prog 5 := int_keyed Try.underlying5
abbrev KV (c : UInt8) : Value := .int .u8 (c.toNat : Int)
abbrev KL (c : UInt8) : Lit := .int .u8 (c.toNat : Int)
theorem wf8 (c : UInt8) : (Lit.int .u8 (c.toNat : Int)).wf = true := by
  have := c.toNat_lt
  exact WalkArith.wf_u8 (by omega)
theorem key_lit (c : UInt8) : keyOf Try.prog 5 (KV c) = some (KL c) := keyOf_int_mk Try.underlying5 (wf8 c)
theorem kl_inj {c d : UInt8} (h : KL c = KL d) : c = d := by
  injection h with _ h
  exact UInt8.toNat_inj.1 (by omega)
theorem map_tight {H : Type} {a : World} {P : Program} {k : TypeId} {R : Value → Option (DataW H × List MemPlace)} {m n : Nat} {D : DataW H} (h : a.ownsMap P k R m n D) : a.ownsMap P k R m (Maps.size D) D := by
  obtain ⟨es, clock, hb, F, _, rfl⟩ := h
  exact ⟨es, clock, hb, F, by simp [Maps.size, length_sorted], rfl⟩
/-- how a slice is read: as the number of its block, its length, its room -/
def slElem (v : Value) : Option (DataW Unit × List MemPlace) :=
  match v with
  | .slice none 0 0 => some (.nil, [])
  | .slice (some ⟨g, 0, none⟩) n c => some (.slice [.lit (.int .i64 g), .lit (.int .i64 n), .lit (.int .i64 c)] [], [])
  | _ => none
def slEnc (v : Value) : DataW Unit := ((slElem v).map (·.1)).getD .nil
def SlOk (v : Value) : Prop := slElem v = some (slEnc v, [])
theorem sl_nil : slElem (.slice none 0 0) = some (.nil, []) := rfl
theorem slOk_own {w : World} {base n size : Nat} {e : TypeId} {v : Value} {xs : List Value} (h : w.ownsRow base e size v n xs) : SlOk v := by
  rcases h.2 with ⟨rfl, _⟩ | ⟨g, cap, cur, rfl, _⟩ <;> rfl
theorem sl_inj {v u : Value} {ps : List MemPlace} (h : slElem v = some (slEnc u, ps)) (hu : SlOk u) : v = u := by
  have key : ∀ (a b : Value) (d : DataW Unit) (ps qs : List MemPlace), slElem a = some (d, ps) → slElem b = some (d, qs) → a = b := by
    intro a b d ps qs ha hb
    unfold slElem at ha hb
    split at ha
    · split at hb
      · rfl
      · simp at ha hb; obtain ⟨rfl, _⟩ := ha; simp at hb
      · cases hb
    · rename_i g n c
      split at hb
      · simp at ha hb; obtain ⟨rfl, _⟩ := ha; simp at hb
      · rename_i g2 n2 c2
        simp at ha hb
        obtain ⟨rfl, _⟩ := ha
        simp at hb
        obtain ⟨⟨h1, h2, h3⟩, _⟩ := hb
        have e1 : g = g2 := by omega
        have e2 : n = n2 := by omega
        have e3 : c = c2 := by omega
        rw [e1, e2, e3]
      · cases hb
    · cases ha
  exact key v u _ _ _ h hu
theorem sl_nil_inv {v : Value} {ps : List MemPlace} (h : slElem v = some (.nil, ps)) : v = .slice none 0 0 := sl_inj (u := .slice none 0 0) h rfl
variable {w w' : World} {m : Nat} {F : UInt8 → Option Value}
/-- block m is a map that holds what F says -/
def MapB (w : World) (m : Nat) (F : UInt8 → Option Value) : Prop :=
  ∃ (D : DataW Unit) (n : Nat), w.ownsMap Try.prog 5 slElem m n D ∧ ∀ c, (F c = none → Maps.has D (KL c) = false) ∧ ∀ v, F c = some v → SlOk v ∧ Maps.has D (KL c) = true ∧ ∀ z, D.atKey (KL c) z = slEnc v
theorem MapB.made (w : World) : MapB (w.alloc (.map #[] 0)) w.heap.size (fun _ => none) :=
  ⟨.map [], 0, World.ownsMap_made w Try.prog 5 slElem, fun c => ⟨fun _ => by simp [Maps.has], fun v h => by cases h⟩⟩
theorem MapB.isMap (h : MapB w m F) : ∃ es c, w.heap[m]? = some (.map es c) := by
  obtain ⟨D, n, ⟨es, clock, hb, _⟩, _⟩ := h
  exact ⟨es, clock, hb⟩
theorem MapB.keep (h : MapB w m F) (f : w'.heap[m]? = w.heap[m]?) : MapB w' m F := by
  obtain ⟨D, n, ⟨es, clock, hb, r⟩, h2⟩ := h
  exact ⟨D, n, ⟨es, clock, f.trans hb, r⟩, h2⟩
theorem zeroB (W : World) : (zeroValue 39).run Try.prog W = .ok (.slice none 0 0) W := by kernel_rfl
theorem MapB.yes (h : MapB w m F) {c : UInt8} {v : Value} (hv : F c = some v) :
    (Instr.lookup 68 (.map (some m)) (KV c) true).run Try.prog w = .ok (.tuple #[v, .bool true]) w ∧ (Instr.lookup 68 (.map (some m)) (KV c) false).run Try.prog w = .ok v w := by
  obtain ⟨D, n, h1, h2⟩ := h
  obtain ⟨ho, hh, ha⟩ := (h2 c).2 v hv
  constructor
  · obtain ⟨u, ps, hr, hu⟩ := h1.look_ok (t := 68) KB Try.underlying68 (zeroB w) (zd := .nil) (zp := []) sl_nil (key_lit c)
    rw [hh] at hr
    rw [ha] at hu
    rw [hr, sl_inj hu ho]
  · obtain ⟨u, ps, hr, hu⟩ := h1.lookup (t := 68) KB Try.underlying68 (zeroB w) (zd := .nil) (zp := []) sl_nil (key_lit c)
    rw [ha] at hu
    rw [hr, sl_inj hu ho]
theorem MapB.no (h : MapB w m F) {c : UInt8} (hv : F c = none) :
    (Instr.lookup 68 (.map (some m)) (KV c) true).run Try.prog w = .ok (.tuple #[.slice none 0 0, .bool false]) w := by
  obtain ⟨D, n, h1, h2⟩ := h
  have hh := (h2 c).1 hv
  obtain ⟨u, ps, hr, hu⟩ := h1.look_ok (t := 68) KB Try.underlying68 (zeroB w) (zd := .nil) (zp := []) sl_nil (key_lit c)
  rw [hh] at hr
  rw [Maps.atKey_of_not_has hh] at hu
  rw [hr, sl_nil_inv hu]
/-- distinct things, each of which some thing of a list stands for: no more than that list has -/
theorem length_le_of {α β : Type} (f : β → Option α) : ∀ {l : List α} {F : List β}, l.Pairwise (fun x y => x ≠ y) → (∀ x ∈ l, ∃ y ∈ F, f y = some x) → l.length ≤ F.length
  | [], _, _, _ => Nat.zero_le _
  | x :: l, F, h, hF => by
    obtain ⟨h1, h2⟩ := List.pairwise_cons.1 h
    obtain ⟨y, hy, hfy⟩ := hF x List.mem_cons_self
    obtain ⟨a, b, rfl⟩ := List.append_of_mem hy
    have := length_le_of f (F := a ++ b) h2 (fun z hz => by
      obtain ⟨u, hu, hfu⟩ := hF z (List.mem_cons_of_mem _ hz)
      refine ⟨u, ?_, hfu⟩
      rcases List.mem_append.1 hu with hu | hu
      · exact List.mem_append_left _ hu
      · rcases List.mem_cons.1 hu with rfl | hu
        · rw [hfy] at hfu; cases hfu; exact (h1 _ hz rfl).elim
        · exact List.mem_append_right _ hu)
    simp at this ⊢; omega
theorem MapB.small (h : MapB w m F) : ∃ D : DataW Unit, w.ownsMap Try.prog 5 slElem m 256 D ∧ ∀ c, (F c = none → Maps.has D (KL c) = false) ∧ ∀ v, F c = some v → SlOk v ∧ Maps.has D (KL c) = true ∧ ∀ z, D.atKey (KL c) z = slEnc v := by
  obtain ⟨D, n, h1, h2⟩ := h
  obtain ⟨es, hD, hpw, hk1⟩ := h1.entries KB
  obtain ⟨es', hD', hko⟩ := h1.keysOf
  obtain rfl : es = es' := by rw [hD] at hD'; simpa using hD'
  refine ⟨D, (map_tight h1).mono ?_, h2⟩
  rw [hD]
  show es.length ≤ 256
  have := length_le_of (fun i : Nat => some (Lit.int .u8 (i : Int))) (l := es.map (·.1)) (F := List.range 256) (List.pairwise_map.2 hpw) (fun x hx => by
    obtain ⟨p, hp, rfl⟩ := List.mem_map.1 hx
    obtain ⟨v, hv⟩ := hko p hp
    obtain ⟨y, _, e, hw⟩ := Maps.keyOf_int_inv Try.underlying5 hv
    have hw := bounds_u8 hw
    exact ⟨y.toNat, List.mem_range.2 (by omega), by rw [e]; exact congrArg some (congrArg (Lit.int .u8) (by omega))⟩)
  simpa using this
/-- m[c] = v -/
theorem MapB.put (h : MapB w m F) (c : UInt8) {v : Value} (hv : SlOk v) :
    ∃ w', (Instr.mapUpdate 68 (.map (some m)) (KV c) v).run Try.prog w = .ok () w' ∧ MapB w' m (fun d => if d = c then some v else F d) ∧ w.grownBy w' (some m) := by
  obtain ⟨D, h1, h2⟩ := h.small
  have hm : Maps.IsMap D := by
    obtain ⟨es, clock, hb, F, _, rfl⟩ := h1
    exact ⟨_, rfl⟩
  obtain ⟨w2, hr, h3, h4⟩ := h1.update (t := 68) KB Try.underlying68 (by unfold maxLen; omega) (key_lit c) hv
  refine ⟨w2, hr, ⟨_, _, h3, fun d => ?_⟩, h4⟩
  by_cases e : d = c
  · subst e
    refine ⟨fun h => (by dsimp only at h; rw [if_pos rfl] at h; cases h), fun u hu => ?_⟩
    dsimp only at hu
    rw [if_pos rfl] at hu
    cases hu
    exact ⟨hv, Maps.has_put_same hm (KB.key (key_lit d)) _, fun z => Maps.atKey_put_same hm (KB.key (key_lit d)) _ z⟩
  · have e2 : KL d ≠ KL c := fun h => e (kl_inj h)
    rw [Maps.has_put_other e2]
    refine ⟨fun h => ?_, fun u hu => ?_⟩
    · dsimp only at h; rw [if_neg e] at h; exact (h2 d).1 h
    · dsimp only at hu; rw [if_neg e] at hu
      obtain ⟨k1, k2, k3⟩ := (h2 d).2 u hu
      exact ⟨k1, k2, fun z => by rw [Maps.atKey_put_other e2]; exact k3 z⟩
end Go.Proofs.Ytmoklodaeicpgaa
