/-
  The two maps of a table: struct keys, pointers to nodes; what looking up, putting and deleting do. Conditions: the words are words of 64 bits, a text is no longer than an int (every value of the types is such).
  A table in memory: what it means; keyOf, ownerOf. No condition beyond those in each theorem's own statement.
  The contract of a table's add: one lease more. Conditions: the lease is sound, and meets, and shares an owner with, none of the table's.
-/
import Derived.Test.YtpldkgollhbolaaGreatT0
import Derived.WalkArith
import Derived.Sort.KeysCollected
import Derived.Test.YtpldkgollhbolaaGreatT2
import Derived.Deep.RegionWith
namespace Go.Proofs.YtpldkgollhbolaaGreat
open Go.RowKit Go.Joins Go.Maps

theorem laidOut : laidOutB Tryz.prog = true := by kernel_rfl
theorem KK : Keyed Tryz.prog 80 := Keyed.of_law (deep_law_laid laidOut (m := 6) (by omega) (of_decide_eq_true (by kernel_rfl)) (by kernel_rfl) (by kernel_rfl))
theorem KO : Keyed Tryz.prog 78 := Keyed.of_law (deep_law_laid laidOut (m := 6) (by omega) (of_decide_eq_true (by kernel_rfl)) (by kernel_rfl) (by kernel_rfl))
abbrev keyV (k : Int) (p : Nat) (n : Int) : Value := .agg #[.int .i64 k, .int .u64 (hi p : Nat), .int .u64 (lo p : Nat), .int .i64 n]
abbrev ownV (k : Int) (c : ByteArray) (i : Nat) : Value := .agg #[.int .i64 k, .string c, .int .u32 (i : Int)]
theorem wf64 {x : Int} (h : I64 x) : (Lit.int .i64 x).wf = true := WalkArith.wf_i64 h
theorem wfu {x : Nat} (h : x < 18446744073709551616) : (Lit.int .u64 (x : Int)).wf = true := WalkArith.wf_u64 (by omega)
theorem wfu32 {x : Nat} (h : x < 4294967296) : (Lit.int .u32 (x : Int)).wf = true := WalkArith.wf_u32 (by omega)
theorem kc1 : Tryz.prog.cellsOf 80 = 4 := by kernel_rfl
theorem kc2 : Tryz.prog.cellsOf 27 = 3 := by kernel_rfl
theorem kc3 : Tryz.prog.cellsOf 25 = 2 := by kernel_rfl
theorem kc4 : Tryz.prog.cellsOf 23 = 1 := by kernel_rfl
theorem kc5 : Tryz.prog.cellsOf 3 = 1 := by kernel_rfl
theorem kc6 : Tryz.prog.cellsOf 78 = 3 := by kernel_rfl
theorem kc7 : Tryz.prog.cellsOf 9 = 1 := by kernel_rfl
theorem kc8 : Tryz.prog.cellsOf 28 = 1 := by kernel_rfl
theorem key_ok {k : Int} {p : Nat} {n : Int} (hk : I64 k) (hp : Fits p) (hn : I64 n) : ∃ l, keyOf Tryz.prog 80 (keyV k p n) = some l := by
  have h1 : Tryz.prog.keyType 80 = true := by kernel_rfl
  have h2 : (keyV k p n).formed Tryz.prog 80 = true := by kernel_rfl
  have a1 := wf64 hk
  have a2 := wf64 hn
  have a3 := wfu (x := hi p) (by unfold Fits at hp; unfold hi; omega)
  have a4 := wfu (x := lo p) (by unfold lo; omega)
  have h3 : ∀ F, Tryz.prog.keyLits (F + 4) 80 [.int .i64 k, .int .u64 (hi p : Nat), .int .u64 (lo p : Nat), .int .i64 n] = some [.int .i64 k, .int .u64 (hi p : Nat), .int .u64 (lo p : Nat), .int .i64 n] := by
    intro F
    have k1 : ∀ F (x : Int), (Lit.int .i64 x).wf = true → Tryz.prog.keyLits (F + 1) 3 [.int .i64 x] = some [.int .i64 x] := fun F x h => by simp [Program.keyLits, Tryz.underlying3, h]
    have k2 : ∀ F (x : Int), (Lit.int .u64 x).wf = true → Tryz.prog.keyLits (F + 1) 23 [.int .u64 x] = some [.int .u64 x] := fun F x h => by simp [Program.keyLits, Tryz.underlying23, h]
    have k3 : Tryz.prog.keyLits (F + 1 + 1) 25 [.int .u64 (hi p : Nat), .int .u64 (lo p : Nat)] = some [.int .u64 (hi p : Nat), .int .u64 (lo p : Nat)] := by
      unfold Program.keyLits
      rw [Tryz.underlying25]
      refine (if_pos ⟨by rw [kc3]; rfl, by kernel_rfl⟩).trans ?_
      simp [kc4, k2 _ _ a3, k2 _ _ a4]
    have k4 : Tryz.prog.keyLits (F + 1 + 1 + 1) 27 [.int .u64 (hi p : Nat), .int .u64 (lo p : Nat), .int .i64 n] = some [.int .u64 (hi p : Nat), .int .u64 (lo p : Nat), .int .i64 n] := by
      unfold Program.keyLits
      rw [Tryz.underlying27]
      refine (if_pos ⟨by rw [kc2]; rfl, by kernel_rfl⟩).trans ?_
      simp [kc3, kc5, k3, k1 _ _ a2]
    show Tryz.prog.keyLits (F + 1 + 1 + 1 + 1) _ _ = _
    unfold Program.keyLits
    rw [Tryz.underlying80]
    refine (if_pos ⟨by rw [kc1]; rfl, by kernel_rfl⟩).trans ?_
    simp [kc2, kc5, k4, k1 _ _ a1]
  have h4 : Tryz.prog.types.size + 1 = (Tryz.prog.types.size - 3) + 4 := by
    have : 4 ≤ Tryz.prog.types.size := of_decide_eq_true (by kernel_rfl)
    omega
  refine ⟨.string (keyBytes [.int .i64 k, .int .u64 (hi p : Nat), .int .u64 (lo p : Nat), .int .i64 n]), ?_⟩
  unfold keyOf
  rw [Tryz.underlying80]
  simp only [h1, h2, Bool.and_self, if_true, h4]
  show (Tryz.prog.keyLits _ _ [.int .i64 k, .int .u64 (hi p : Nat), .int .u64 (lo p : Nat), .int .i64 n]).map _ = _
  rw [h3]
  rfl
theorem own_ok {k : Int} {c : ByteArray} {i : Nat} (hk : I64 k) (hc : c.size ≤ maxLen) (hi : i < 4294967296) : ∃ l, keyOf Tryz.prog 78 (ownV k c i) = some l := by
  have h1 : Tryz.prog.keyType 78 = true := by kernel_rfl
  have h2 : (ownV k c i).formed Tryz.prog 78 = true := by kernel_rfl
  have a1 := wf64 hk
  have a3 := wfu32 hi
  have h3 : ∀ F, Tryz.prog.keyLits (F + 4) 78 [.int .i64 k, .string c, .int .u32 (i : Int)] = some [.int .i64 k, .string c.data.toList, .int .u32 (i : Int)] := by
    intro F
    have k1 : ∀ F, Tryz.prog.keyLits (F + 1) 3 [.int .i64 k] = some [.int .i64 k] := fun F => by simp [Program.keyLits, Tryz.underlying3, a1]
    have k2 : ∀ F, Tryz.prog.keyLits (F + 1) 28 [.int .u32 (i : Int)] = some [.int .u32 (i : Int)] := fun F => by simp [Program.keyLits, Tryz.underlying28, a3]
    have k3 : ∀ F, Tryz.prog.keyLits (F + 1) 9 [.string c] = some [.string c.data.toList] := fun F => by simp [Program.keyLits, Tryz.underlying9, hc]
    show Tryz.prog.keyLits (F + 1 + 1 + 1 + 1) _ _ = _
    unfold Program.keyLits
    rw [Tryz.underlying78]
    refine (if_pos ⟨by rw [kc6]; rfl, by kernel_rfl⟩).trans ?_
    simp [kc5, kc7, kc8, k1, k2, k3]
  have h4 : Tryz.prog.types.size + 1 = (Tryz.prog.types.size - 3) + 4 := by
    have : 4 ≤ Tryz.prog.types.size := of_decide_eq_true (by kernel_rfl)
    omega
  refine ⟨.string (keyBytes [.int .i64 k, .string c.data.toList, .int .u32 (i : Int)]), ?_⟩
  unfold keyOf
  rw [Tryz.underlying78]
  simp only [h1, h2, Bool.and_self, if_true, h4]
  show (Tryz.prog.keyLits _ _ [.int .i64 k, .string c, .int .u32 (i : Int)]).map _ = _
  rw [h3]
  rfl

/-! ### a map of pointers, by what its keys stand for -/
variable {w w' : World} {kt : TypeId} {m g : Nat} {R R' : Value → Nat → Prop}
/-- block m is a map whose keys point where R says -/
def MapK (w : World) (kt : TypeId) (m : Nat) (R : Value → Nat → Prop) : Prop :=
  ∃ (D : DataW Unit) (n : Nat), w.ownsMap Tryz.prog kt ptrElem m n D ∧ (∀ key kl, keyOf Tryz.prog kt key = some kl → (Maps.has D kl = true → ∃ g, R key g) ∧ ∀ g, R key g → Maps.has D kl = true ∧ ∀ z, D.atKey kl z = .lit (.int .i64 (g : Nat)))
theorem MapK.iff (h : MapK w kt m R) (e : ∀ key g, R key g ↔ R' key g) : MapK w kt m R' := by
  obtain ⟨D, n, h1, h2⟩ := h
  exact ⟨D, n, h1, fun key kl hk => ⟨fun hh => by obtain ⟨g, hg⟩ := (h2 key kl hk).1 hh; exact ⟨g, (e key g).1 hg⟩, fun g hg => (h2 key kl hk).2 g ((e key g).2 hg)⟩⟩
theorem MapK.iffK (h : MapK w kt m R) (e : ∀ key kl, keyOf Tryz.prog kt key = some kl → ∀ g, R key g ↔ R' key g) : MapK w kt m R' := by
  obtain ⟨D, n, h1, h2⟩ := h
  exact ⟨D, n, h1, fun key kl hk => ⟨fun hh => by obtain ⟨g, hg⟩ := (h2 key kl hk).1 hh; exact ⟨g, (e key kl hk g).1 hg⟩, fun g hg => (h2 key kl hk).2 g ((e key kl hk g).2 hg)⟩⟩
theorem MapK.fr {S : Nat → Prop} (h : MapK w kt m R) (f : Fr S w w') (hn : ¬ S m) : MapK w' kt m R := by
  obtain ⟨D, n, h1, h2⟩ := h
  exact ⟨D, n, map_fr h1 f hn, h2⟩
theorem MapK.keep (h : MapK w kt m R) (f : ∀ (k : Nat) (es : Array MapEntry) (c : Nat), w.heap[k]? = some (.map es c) → w'.heap[k]? = some (.map es c)) : MapK w' kt m R := by
  obtain ⟨D, n, ⟨es, clock, hb, r⟩, h2⟩ := h
  exact ⟨D, n, ⟨es, clock, f _ _ _ hb, r⟩, h2⟩
theorem MapK.made (w : World) (kt : TypeId) : MapK (w.alloc (.map #[] 0)) kt w.heap.size (fun _ _ => False) :=
  ⟨.map [], 0, World.ownsMap_made w Tryz.prog kt ptrElem, fun key kl hk => ⟨fun h => by simp [Maps.has] at h, fun g h => h.elim⟩⟩
theorem MapK.isMap (h : MapK w kt m R) : ∃ es c, w.heap[m]? = some (.map es c) := by
  obtain ⟨D, n, ⟨es, clock, hb, _⟩, _⟩ := h
  exact ⟨es, clock, hb⟩
theorem MapK.yes (h : MapK w kt m R) (K : Keyed Tryz.prog kt) {t e : TypeId} (ht : Tryz.prog.underlying t = some (.map kt e)) (hz : ∀ W, (zeroValue e).run Tryz.prog W = .ok (.pointer none) W) {key : Value} (hk : ∃ l, keyOf Tryz.prog kt key = some l) (hg : R key g) :
    (Instr.lookup t (.map (some m)) key true).run Tryz.prog w = .ok (.tuple #[Pt g, .bool true]) w ∧ (Instr.lookup t (.map (some m)) key false).run Tryz.prog w = .ok (Pt g) w := by
  obtain ⟨D, n, h1, h2⟩ := h
  obtain ⟨kl, hk⟩ := hk
  obtain ⟨hh, ha⟩ := (h2 key kl hk).2 g hg
  constructor
  · obtain ⟨v, ps, hr, hv⟩ := h1.look_ok (t := t) K ht (hz w) (zd := .nil) (zp := []) rfl hk
    rw [hh] at hr
    rw [ha] at hv
    rw [hr, ptr_lit hv]
  · obtain ⟨v, ps, hr, hv⟩ := h1.lookup (t := t) K ht (hz w) (zd := .nil) (zp := []) rfl hk
    rw [ha] at hv
    rw [hr, ptr_lit hv]
theorem MapK.no (h : MapK w kt m R) (K : Keyed Tryz.prog kt) {t e : TypeId} (ht : Tryz.prog.underlying t = some (.map kt e)) (hz : ∀ W, (zeroValue e).run Tryz.prog W = .ok (.pointer none) W) {key : Value} (hk : ∃ l, keyOf Tryz.prog kt key = some l) (hg : ∀ g, ¬ R key g) :
    (Instr.lookup t (.map (some m)) key true).run Tryz.prog w = .ok (.tuple #[.pointer none, .bool false]) w ∧ (Instr.lookup t (.map (some m)) key false).run Tryz.prog w = .ok (.pointer none) w := by
  obtain ⟨D, n, h1, h2⟩ := h
  obtain ⟨kl, hk⟩ := hk
  have hh : Maps.has D kl = false := by
    cases e : Maps.has D kl
    · rfl
    · obtain ⟨g, h⟩ := (h2 key kl hk).1 e; exact (hg g h).elim
  constructor
  · obtain ⟨v, ps, hr, hv⟩ := h1.look_ok (t := t) K ht (hz w) (zd := .nil) (zp := []) rfl hk
    rw [hh] at hr
    rw [Maps.atKey_of_not_has hh] at hv
    rw [hr, ptr_nil hv]
  · obtain ⟨v, ps, hr, hv⟩ := h1.lookup (t := t) K ht (hz w) (zd := .nil) (zp := []) rfl hk
    rw [Maps.atKey_of_not_has hh] at hv
    rw [hr, ptr_nil hv]
/-- distinct things, each of which some thing of a list stands for: no more than that list has -/
theorem length_le_of {α β : Type} (f : β → Option α) : ∀ {l : List α} {F : List β}, l.Pairwise (fun x y => x ≠ y) → (∀ x ∈ l, ∃ y ∈ F, f y = some x) → l.length ≤ F.length
  | [], _, _, _ => Nat.zero_le _
  | x :: l, F, h, hF => by
    obtain ⟨h1, h2⟩ := List.pairwise_cons.1 h
    obtain ⟨y, hy, hfy⟩ := hF x List.mem_cons_self
    obtain ⟨a, b, rfl⟩ := List.append_of_mem hy
    have := length_le_of f (F := a ++ b) h2 (fun z hz => by
      obtain ⟨u, hu, hfu⟩ := hF z (List.mem_cons_of_mem _ hz)
      refine ⟨u, ?_, hfu⟩
      rcases List.mem_append.1 hu with hu | hu
      · exact List.mem_append_left _ hu
      · rcases List.mem_cons.1 hu with rfl | hu
        · rw [hfy] at hfu; cases hfu; exact (h1 _ hz rfl).elim
        · exact List.mem_append_right _ hu)
    simp at this ⊢; omega
theorem MapK.small (h : MapK w kt m R) (K : Keyed Tryz.prog kt) (E : List (Value × Nat)) (hE : ∀ key g, R key g → (key, g) ∈ E) :
    ∃ D : DataW Unit, w.ownsMap Tryz.prog kt ptrElem m E.length D ∧ (∀ key kl, keyOf Tryz.prog kt key = some kl → (Maps.has D kl = true → ∃ g, R key g) ∧ ∀ g, R key g → Maps.has D kl = true ∧ ∀ z, D.atKey kl z = .lit (.int .i64 (g : Nat))) := by
  obtain ⟨D, n, h1, h2⟩ := h
  obtain ⟨es, hD, hpw, hk1⟩ := h1.entries K
  obtain ⟨es', hD', hko⟩ := h1.keysOf
  obtain rfl : es = es' := by rw [hD] at hD'; simpa using hD'
  refine ⟨D, (map_tight h1).mono ?_, h2⟩
  rw [hD]
  show es.length ≤ E.length
  have := length_le_of (fun y : Value × Nat => keyOf Tryz.prog kt y.1) (l := es.map (·.1)) (F := E) (List.pairwise_map.2 hpw) (fun x hx => by
    obtain ⟨p, hp, rfl⟩ := List.mem_map.1 hx
    obtain ⟨v, hv⟩ := hko p hp
    have hh : Maps.has D p.1 = true := by
      rw [hD, Maps.has_eq, List.any_eq_true]
      exact ⟨p, hp, WideAt.sameKey_self (hk1 p hp)⟩
    obtain ⟨g, hg⟩ := (h2 v p.1 hv).1 hh
    exact ⟨(v, g), hE v g hg, hv⟩)
  simpa using this
theorem MapK.stored (K : Keyed Tryz.prog kt) {D : DataW Unit} {n : Nat} {key : Value} {kl : Lit} (hk : keyOf Tryz.prog kt key = some kl) (g : Nat)
    (h2 : ∀ key kl, keyOf Tryz.prog kt key = some kl → (Maps.has D kl = true → ∃ g, R key g) ∧ ∀ g, R key g → Maps.has D kl = true ∧ ∀ z, D.atKey kl z = .lit (.int .i64 (g : Nat))) (hm : Maps.IsMap D)
    (h1 : w.ownsMap Tryz.prog kt ptrElem m n (D.put kl (.lit (.int .i64 (g : Nat))))) : MapK w kt m (fun k2 g2 => (k2 = key ∧ g2 = g) ∨ (k2 ≠ key ∧ R k2 g2)) := by
  refine ⟨_, n, h1, fun k2 kl2 hk2 => ?_⟩
  by_cases e : kl2 = kl
  · subst e
    have e2 : k2 = key := K.inj hk2 hk
    subst e2
    refine ⟨fun _ => ⟨g, Or.inl ⟨rfl, rfl⟩⟩, fun g2 hg => ?_⟩
    rcases hg with ⟨_, rfl⟩ | ⟨hne, _⟩
    · exact ⟨Maps.has_put_same hm (K.key hk) _, fun z => Maps.atKey_put_same hm (K.key hk) _ z⟩
    · exact (hne rfl).elim
  · have e2 : k2 ≠ key := fun e2 => e (by rw [e2, hk] at hk2; cases hk2; rfl)
    rw [Maps.has_put_other e]
    refine ⟨fun hh => ?_, fun g2 hg => ?_⟩
    · obtain ⟨g2, hg⟩ := (h2 k2 kl2 hk2).1 hh
      exact ⟨g2, Or.inr ⟨e2, hg⟩⟩
    · rcases hg with ⟨e3, _⟩ | ⟨_, hg⟩
      · exact (e2 e3).elim
      · exact ⟨((h2 k2 kl2 hk2).2 g2 hg).1, fun z => by rw [Maps.atKey_put_other e]; exact ((h2 k2 kl2 hk2).2 g2 hg).2 z⟩
theorem ownsMap_isMap {D : DataW Unit} {n : Nat} (h : w.ownsMap Tryz.prog kt ptrElem m n D) : Maps.IsMap D := by
  obtain ⟨es, clock, hb, F, _, rfl⟩ := h
  exact ⟨_, rfl⟩
/-- m[key] = pointer -/
theorem MapK.put (h : MapK w kt m R) (K : Keyed Tryz.prog kt) {t e : TypeId} (ht : Tryz.prog.underlying t = some (.map kt e)) {key : Value} (hk : ∃ l, keyOf Tryz.prog kt key = some l) (g : Nat) (E : List (Value × Nat)) (hE : ∀ key g, R key g → (key, g) ∈ E) (hl : E.length < maxLen) :
    ∃ w', (Instr.mapUpdate t (.map (some m)) key (Pt g)).run Tryz.prog w = .ok () w' ∧ MapK w' kt m (fun k2 g2 => (k2 = key ∧ g2 = g) ∨ (k2 ≠ key ∧ R k2 g2)) ∧ w.mapTurned w' m := by
  obtain ⟨D, h1, h2⟩ := h.small K E hE
  obtain ⟨kl, hk⟩ := hk
  obtain ⟨w', hr, h3, h4⟩ := h1.store (t := t) K ht hl (val := Pt g) (d := .lit (.int .i64 (g : Nat))) (ps := []) hk rfl
  exact ⟨w', hr, MapK.stored K hk g h2 (ownsMap_isMap h1) h3, h4⟩
/-- delete(m, key) -/
theorem MapK.del (h : MapK w kt m R) (K : Keyed Tryz.prog kt) {t e : TypeId} (ht : Tryz.prog.underlying t = some (.map kt e)) {key : Value} (hk : ∃ l, keyOf Tryz.prog kt key = some l) (ty : TypeId) :
    ∃ w', (Builtin.delete_ #[t, kt] ty #[.map (some m), key]).run Tryz.prog w = .ok (.tuple #[]) w' ∧ MapK w' kt m (fun k2 g2 => k2 ≠ key ∧ R k2 g2) ∧ w.mapTurned w' m := by
  obtain ⟨D, n, h1, h2⟩ := h
  obtain ⟨kl, hk⟩ := hk
  obtain ⟨w', hr, h3, h4⟩ := h1.drop (t := t) K ht hk ty
  refine ⟨w', hr, ⟨_, n, h3, fun k2 kl2 hk2 => ?_⟩, h4⟩
  by_cases e : kl2 = kl
  · subst e
    have e2 : k2 = key := K.inj hk2 hk
    subst e2
    rw [Maps.has_del_same]
    exact ⟨(fun h => by cases h), fun g hg => (hg.1 rfl).elim⟩
  · have e2 : k2 ≠ key := fun e2 => e (by rw [e2, hk] at hk2; cases hk2; rfl)
    rw [Maps.has_del_other e]
    refine ⟨fun hh => ?_, fun g2 hg => ⟨((h2 k2 kl2 hk2).2 g2 hg.2).1, fun z => by rw [Maps.atKey_del_other e]; exact ((h2 k2 kl2 hk2).2 g2 hg.2).2 z⟩⟩
    obtain ⟨g2, hg⟩ := (h2 k2 kl2 hk2).1 hh
    exact ⟨g2, e2, hg⟩
end Go.Proofs.YtpldkgollhbolaaGreat
namespace Go.Proofs.YtpldkgollhbolaaGreat
open Go.RowKit Go.Joins Go.Maps

/-- a lease's place among the keys, its owner's -/
abbrev KOf (x : Ls) : Value := keyV x.kind x.p x.n
abbrev OOf (x : Ls) : Value := ownV x.kind x.cl x.ia
def RK (E : List En) (key : Value) (g : Nat) : Prop := ∃ x, (g, x) ∈ E ∧ key = KOf x
def RO (E : List En) (key : Value) (g : Nat) : Prop := ∃ x, (g, x) ∈ E ∧ x.st = 1 ∧ key = OOf x
structure TabE (w : World) (t km om : Nat) (O : Nat → Prop) (v : Value) (E : List En) : Prop where
  ends : Ends w t km om O v E
  keys : MapK w 80 km (RK E)
  owns : MapK w 78 om (RO E)
  heap : HeapF (unE E) E.length
  good : GoodL (E.map (·.2))
  ownK : O km ∧ O om
  ne : km ≠ om
/-- memory holds a table with just these leases, in their order -/
def IsTab (w : World) (t : Nat) (O : Nat → Prop) (L : List Ls) : Prop := ∃ km om v E, TabE w t km om O v E ∧ SrtL L ∧ L.Perm (E.map (·.2))
theorem hi_u64 {p : Nat} (h : Fits p) : hi p < 18446744073709551616 := by unfold Fits at h; unfold hi; omega
theorem key_inj {k : Int} {p : Nat} {n : Int} {j : Int} {q : Nat} {m : Int} : keyV k p n = keyV j q m ↔ (k = j ∧ p = q ∧ n = m) := by
  constructor
  · intro h
    simp only [Value.agg.injEq, Array.mk.injEq, List.cons.injEq, Value.int.injEq, true_and, and_true] at h
    obtain ⟨h1, h2, h3, h4⟩ := h
    have a : hi p = hi q := by omega
    have b : lo p = lo q := by omega
    refine ⟨h1, ?_, h4⟩
    unfold hi lo at *
    omega
  · rintro ⟨rfl, rfl, rfl⟩; rfl
theorem own_inj {k : Int} {c : ByteArray} {i : Nat} {j : Int} {d : ByteArray} {m : Nat} : ownV k c i = ownV j d m ↔ (k = j ∧ c = d ∧ i = m) := by
  constructor
  · intro h
    simp only [Value.agg.injEq, Array.mk.injEq, List.cons.injEq, Value.int.injEq, Value.string.injEq, true_and, and_true] at h
    obtain ⟨h1, h2, h3⟩ := h
    exact ⟨h1, h2, by omega⟩
  · rintro ⟨rfl, rfl, rfl⟩; rfl
theorem keyOf_any (x : Ls) (w : World) : Calls Tryz.prog 46 #[Lv x] w (Gives (KOf x) w) := by
  go_enter Tryz.func46, Tryz.ntmps46
  go_wp2
  refine bodyPost_ret (v := KOf x) (by simp [results, Tryz.results46, go_sem]) rfl ⟨rfl, ?_⟩
  exact (((Below.refl _ _).alloc (Nat.le_refl _) _).alloc (by simp) _)
theorem ownerOf_any (x : Ls) (w : World) : Calls Tryz.prog 57 #[Lv x] w (Gives (OOf x) w) := by
  go_enter Tryz.func57, Tryz.ntmps57
  go_wp2
  refine bodyPost_ret (v := OOf x) (by simp [results, Tryz.results57, go_sem]) rfl ⟨rfl, ?_⟩
  exact (((Below.refl _ _).alloc (Nat.le_refl _) _).alloc (by simp) _)
end Go.Proofs.YtpldkgollhbolaaGreat
namespace Go.Proofs.YtpldkgollhbolaaGreat
open Go.RowKit Go.Joins Go.Maps

variable {w w' W W' : World} {t km om : Nat} {O : Nat → Prop} {v : Value} {E : List En}
theorem Ends.turned {m : Nat} (h : Ends W t km om O v E) (hm : ∃ es c, W.heap[m]? = some (.map es c)) (f : Fr (fun k => k = m) W W') : Ends W' t km om O v E := by
  obtain ⟨es, c, hm⟩ := hm
  have ne : ∀ {k : Nat} {cur : Array Value} {ty : TypeId} {fz : Nat × Nat}, W.heap[k]? = some (.cells cur ty fz) → ¬ k = m := fun hk e => by
    rw [e, hm] at hk; simp at hk
  refine ⟨f.keep h.tab (ne h.tab), own_fr h.row f (fun k hk e => ?_), fun i e hi => f.keep (h.node i e hi) (ne (h.node i e hi)), h.own, fun k hk => Nat.lt_of_lt_of_le (h.lt k hk) f.size, h.len, h.frm⟩
  obtain ⟨g, cap, rfl⟩ := h.frm
  obtain ⟨cur, hg⟩ := h.rowT
  cases hk
  exact ne hg e
abbrev leaseC (x : Ls) : Array Value := #[.int .i64 x.kind, .int .u64 (hi x.p : Nat), .int .u64 (lo x.p : Nat), .int .i64 x.n, .int .i64 x.st, .string x.cl, .int .u32 (x.ia : Int), .int .i64 x.un]
/-- a lease in a block of its own -/
def BoxL (W : World) (b : Nat) (x : Ls) : Prop := W.heap[b]? = some (.cells (leaseC x) 30 (0, 0))
theorem BoxL.fr {S : Nat → Prop} {b : Nat} {x : Ls} (h : BoxL W b x) (f : Fr S W W') (hn : ¬ S b) : BoxL W' b x := f.keep h hn
theorem BoxL.cells {b : Nat} {x : Ls} (h : BoxL W b x) : W.cell? ⟨b, 0, none⟩ = some (.int .i64 x.kind) ∧ W.cell? ⟨b, 1, none⟩ = some (.int .u64 (hi x.p : Nat)) ∧ W.cell? ⟨b, 2, none⟩ = some (.int .u64 (lo x.p : Nat)) ∧ W.cell? ⟨b, 3, none⟩ = some (.int .i64 x.n) ∧
    W.cell? ⟨b, 4, none⟩ = some (.int .i64 x.st) ∧ W.cell? ⟨b, 5, none⟩ = some (.string x.cl) ∧ W.cell? ⟨b, 6, none⟩ = some (.int .u32 (x.ia : Int)) ∧ W.cell? ⟨b, 7, none⟩ = some (.int .i64 x.un) :=
  ⟨cell_at h 0, cell_at h 1, cell_at h 2, cell_at h 3, cell_at h 4, cell_at h 5, cell_at h 6, cell_at h 7⟩
theorem Ends.tabs (h : Ends W t km om O v E) : W.cell? ⟨t, 0, none⟩ = some (.map (some km)) ∧ W.cell? ⟨t, 1, none⟩ = some (.map (some om)) ∧ W.cell? ⟨t, 2, none⟩ = some v := ⟨cell_at h.tab 0, cell_at h.tab 1, cell_at h.tab 2⟩
theorem rk_put {x : Ls} {g0 : Nat} (hk : ∀ e ∈ E, keyB e.2 x = false) (key : Value) (g : Nat) : ((key = KOf x ∧ g = g0) ∨ (key ≠ KOf x ∧ RK E key g)) ↔ RK ((g0, x) :: E) key g := by
  constructor
  · rintro (⟨rfl, rfl⟩ | ⟨_, y, hy, rfl⟩)
    · exact ⟨x, List.mem_cons_self, rfl⟩
    · exact ⟨y, List.mem_cons_of_mem _ hy, rfl⟩
  · rintro ⟨y, hy, rfl⟩
    rcases List.mem_cons.1 hy with e | hy
    · cases e; exact Or.inl ⟨rfl, rfl⟩
    · refine Or.inr ⟨fun e => ?_, y, hy, rfl⟩
      have := key_inj.1 e
      have h2 := hk _ hy
      unfold keyB at h2
      rw [decide_eq_true this] at h2; cases h2
theorem ro_put {x : Ls} {g0 : Nat} (hb : x.st = 1) (hk : ∀ e ∈ E, ¬ (bndB x = true ∧ bndB e.2 = true ∧ ownB x e.2 = true)) (key : Value) (g : Nat) : ((key = OOf x ∧ g = g0) ∨ (key ≠ OOf x ∧ RO E key g)) ↔ RO ((g0, x) :: E) key g := by
  constructor
  · rintro (⟨rfl, rfl⟩ | ⟨_, y, hy, hyb, rfl⟩)
    · exact ⟨x, List.mem_cons_self, hb, rfl⟩
    · exact ⟨y, List.mem_cons_of_mem _ hy, hyb, rfl⟩
  · rintro ⟨y, hy, hyb, rfl⟩
    rcases List.mem_cons.1 hy with e | hy
    · cases e; exact Or.inl ⟨rfl, rfl⟩
    · refine Or.inr ⟨fun e => ?_, y, hy, hyb, rfl⟩
      obtain ⟨a, b, c⟩ := own_inj.1 e
      refine hk _ hy ⟨decide_eq_true hb, decide_eq_true hyb, decide_eq_true ⟨a.symm, b.symm, c.symm⟩⟩
theorem ro_not {x : Ls} {g0 : Nat} (hb : x.st ≠ 1) (key : Value) (g : Nat) : RO E key g ↔ RO ((g0, x) :: E) key g := by
  constructor
  · rintro ⟨y, hy, hyb, rfl⟩; exact ⟨y, List.mem_cons_of_mem _ hy, hyb, rfl⟩
  · rintro ⟨y, hy, hyb, rfl⟩
    rcases List.mem_cons.1 hy with e | hy
    · cases e; exact (hb hyb).elim
    · exact ⟨y, hy, hyb, rfl⟩
theorem rk_perm {E F : List En} (h : E.Perm F) (key : Value) (g : Nat) : RK E key g ↔ RK F key g := ⟨fun ⟨x, a, b⟩ => ⟨x, h.mem_iff.1 a, b⟩, fun ⟨x, a, b⟩ => ⟨x, h.mem_iff.2 a, b⟩⟩
theorem ro_perm {E F : List En} (h : E.Perm F) (key : Value) (g : Nat) : RO E key g ↔ RO F key g := ⟨fun ⟨x, a, b⟩ => ⟨x, h.mem_iff.1 a, b⟩, fun ⟨x, a, b⟩ => ⟨x, h.mem_iff.2 a, b⟩⟩
theorem zeroPN (W : World) : (zeroValue 72).run Tryz.prog W = .ok (.pointer none) W := by kernel_rfl
theorem ok_key {x : Ls} (h : x.ok) : ∃ l, keyOf Tryz.prog 80 (KOf x) = some l := key_ok h.kind h.p h.n
theorem ok_own {x : Ls} (h : x.ok) : ∃ l, keyOf Tryz.prog 78 (OOf x) = some l := own_ok h.kind h.cl h.ia
theorem put_key (h : MapK W 80 km (RK E)) {x : Ls} (hx : x.ok) (g0 : Nat) (hl : E.length ≤ 2000) (hk : ∀ e ∈ E, keyB e.2 x = false) :
    ∃ W', (Instr.mapUpdate 66 (.map (some km)) (KOf x) (Pt g0)).run Tryz.prog W = .ok () W' ∧ MapK W' 80 km (RK ((g0, x) :: E)) ∧ Fr (fun k => k = km) W W' := by
  obtain ⟨W', h1, h2, h3⟩ := h.put KK Tryz.underlying66 (ok_key hx) g0 (E.map (fun e => (KOf e.2, e.1))) (fun key g ⟨y, hy, e⟩ => by rw [e]; exact List.mem_map.2 ⟨_, hy, rfl⟩) (by rw [List.length_map]; unfold maxLen; omega)
  exact ⟨W', h1, h2.iff (rk_put hk), Fr.turned h3⟩
theorem put_own (h : MapK W 78 om (RO E)) {x : Ls} (hx : x.ok) (g0 : Nat) (hl : E.length ≤ 2000) (hb : x.st = 1) (hk : ∀ e ∈ E, ¬ (bndB x = true ∧ bndB e.2 = true ∧ ownB x e.2 = true)) :
    ∃ W', (Instr.mapUpdate 67 (.map (some om)) (OOf x) (Pt g0)).run Tryz.prog W = .ok () W' ∧ MapK W' 78 om (RO ((g0, x) :: E)) ∧ Fr (fun k => k = om) W W' := by
  obtain ⟨W', h1, h2, h3⟩ := h.put KO Tryz.underlying67 (ok_own hx) g0 (E.map (fun e => (OOf e.2, e.1))) (fun key g ⟨y, hy, _, e⟩ => by rw [e]; exact List.mem_map.2 ⟨_, hy, rfl⟩) (by rw [List.length_map]; unfold maxLen; omega)
  exact ⟨W', h1, h2.iff (ro_put hb hk), Fr.turned h3⟩
/-- in the midst of add: the lease's box is block b, its node the next one -/
structure MidA (w W : World) (t km om : Nat) (O : Nat → Prop) (v : Value) (E : List En) (b : Nat) (x : Ls) : Prop where
  fr : Fr O w W
  ends : Ends W t km om O v E
  box : BoxL W b x
  node : NodeAt W (b + 1) x 0
theorem MidA.step {b : Nat} {x : Ls} (h : MidA w W t km om O v E b x) (hb : Below W.heap.size W W') : MidA w W' t km om O v E b x :=
  ⟨h.fr.andNo (Fr.ofBelow hb), h.ends.below hb, h.box.fr (Fr.ofBelow hb) (fun e => e), node_fr h.node (Fr.ofBelow hb) (fun e => e)⟩
theorem MidA.turn {b m : Nat} {x : Ls} (h : MidA w W t km om O v E b x) (hm : ∃ es c, W.heap[m]? = some (.map es c)) (hO : O m) (f : Fr (fun k => k = m) W W') : MidA w W' t km om O v E b x := by
  refine ⟨h.fr.trans f (fun i _ e => by rw [e]; exact hO), h.ends.turned hm f, ?_, ?_⟩
  · obtain ⟨es, c, hm⟩ := hm
    exact h.box.fr f (fun e => by have := h.box; unfold BoxL at this; rw [e, hm] at this; simp at this)
  · obtain ⟨es, c, hm⟩ := hm
    exact node_fr h.node f (fun e => by have := h.node; unfold NodeAt at this; rw [e, hm] at this; simp at this)
theorem MidA.start {x : Ls} (h : Ends w t km om O v E) : MidA w ((w.alloc (.cells (leaseC x) 30)).alloc (.cells (nodeC x 0) 75)) t km om O v E w.heap.size x := by
  have b1 := below_alloc w (.cells (leaseC x) 30)
  have b2 := below_alloc (w.alloc (.cells (leaseC x) 30)) (.cells (nodeC x 0) 75)
  refine ⟨(Fr.ofBelow (chain b1 b2)).no, h.below (chain b1 b2), (show BoxL (w.alloc _) _ _ from heap_alloc_new w _).fr (Fr.ofBelow b2) (fun e => e), ?_⟩
  exact alloc_at _ (by simp)
end Go.Proofs.YtpldkgollhbolaaGreat
