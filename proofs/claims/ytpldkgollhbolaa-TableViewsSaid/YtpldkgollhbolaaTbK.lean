/-
  The two maps of a table: struct keys, pointers to nodes; what looking up, putting and deleting do. Conditions: the words are words of 64 bits, a text is no longer than an int (every value of the types is such).
-/
import Derived.Test.YtpldkgollhbolaaTbB
import Derived.Test.YtpldkgollhbolaaTbM
import Derived.WalkArith
import Derived.Sort.KeysCollected
namespace Go.Proofs.Ytpldkgollhbolaa
open Go.RowKit Go.Joins Go.Maps

theorem laidOut : laidOutB Try.prog = true := by kernel_rfl
theorem KK : Keyed Try.prog 75 := Keyed.of_law (deep_law_laid laidOut (m := 6) (by omega) (of_decide_eq_true (by kernel_rfl)) (by kernel_rfl) (by kernel_rfl))
theorem KO : Keyed Try.prog 77 := Keyed.of_law (deep_law_laid laidOut (m := 6) (by omega) (of_decide_eq_true (by kernel_rfl)) (by kernel_rfl) (by kernel_rfl))
abbrev keyV (k : Int) (p : Nat) (n : Int) : Value := .agg #[.int .i64 k, .int .u64 (hi p : Nat), .int .u64 (lo p : Nat), .int .i64 n]
abbrev ownV (k : Int) (c : ByteArray) (i : Nat) : Value := .agg #[.int .i64 k, .string c, .int .u32 (i : Int)]
theorem wf64 {x : Int} (h : I64 x) : (Lit.int .i64 x).wf = true := WalkArith.wf_i64 h
theorem wfu {x : Nat} (h : x < 18446744073709551616) : (Lit.int .u64 (x : Int)).wf = true := WalkArith.wf_u64 (by omega)
theorem wfu32 {x : Nat} (h : x < 4294967296) : (Lit.int .u32 (x : Int)).wf = true := WalkArith.wf_u32 (by omega)
theorem kc1 : Try.prog.cellsOf 75 = 4 := by kernel_rfl
theorem kc2 : Try.prog.cellsOf 33 = 3 := by kernel_rfl
theorem kc3 : Try.prog.cellsOf 31 = 2 := by kernel_rfl
theorem kc4 : Try.prog.cellsOf 29 = 1 := by kernel_rfl
theorem kc5 : Try.prog.cellsOf 3 = 1 := by kernel_rfl
theorem kc6 : Try.prog.cellsOf 77 = 3 := by kernel_rfl
theorem kc7 : Try.prog.cellsOf 9 = 1 := by kernel_rfl
theorem kc8 : Try.prog.cellsOf 34 = 1 := by kernel_rfl
theorem key_ok {k : Int} {p : Nat} {n : Int} (hk : I64 k) (hp : Fits p) (hn : I64 n) : ∃ l, keyOf Try.prog 75 (keyV k p n) = some l := by
  have h1 : Try.prog.keyType 75 = true := by kernel_rfl
  have h2 : (keyV k p n).formed Try.prog 75 = true := by kernel_rfl
  have a1 := wf64 hk
  have a2 := wf64 hn
  have a3 := wfu (x := hi p) (by unfold Fits at hp; unfold hi; omega)
  have a4 := wfu (x := lo p) (by unfold lo; omega)
  have h3 : ∀ F, Try.prog.keyLits (F + 4) 75 [.int .i64 k, .int .u64 (hi p : Nat), .int .u64 (lo p : Nat), .int .i64 n] = some [.int .i64 k, .int .u64 (hi p : Nat), .int .u64 (lo p : Nat), .int .i64 n] := by
    intro F
    have k1 : ∀ F (x : Int), (Lit.int .i64 x).wf = true → Try.prog.keyLits (F + 1) 3 [.int .i64 x] = some [.int .i64 x] := fun F x h => by simp [Program.keyLits, Try.underlying3, h]
    have k2 : ∀ F (x : Int), (Lit.int .u64 x).wf = true → Try.prog.keyLits (F + 1) 29 [.int .u64 x] = some [.int .u64 x] := fun F x h => by simp [Program.keyLits, Try.underlying29, h]
    have k3 : Try.prog.keyLits (F + 1 + 1) 31 [.int .u64 (hi p : Nat), .int .u64 (lo p : Nat)] = some [.int .u64 (hi p : Nat), .int .u64 (lo p : Nat)] := by
      unfold Program.keyLits
      rw [Try.underlying31]
      refine (if_pos ⟨by rw [kc3]; rfl, by kernel_rfl⟩).trans ?_
      simp [kc4, k2 _ _ a3, k2 _ _ a4]
    have k4 : Try.prog.keyLits (F + 1 + 1 + 1) 33 [.int .u64 (hi p : Nat), .int .u64 (lo p : Nat), .int .i64 n] = some [.int .u64 (hi p : Nat), .int .u64 (lo p : Nat), .int .i64 n] := by
      unfold Program.keyLits
      rw [Try.underlying33]
      refine (if_pos ⟨by rw [kc2]; rfl, by kernel_rfl⟩).trans ?_
      simp [kc3, kc5, k3, k1 _ _ a2]
    show Try.prog.keyLits (F + 1 + 1 + 1 + 1) _ _ = _
    unfold Program.keyLits
    rw [Try.underlying75]
    refine (if_pos ⟨by rw [kc1]; rfl, by kernel_rfl⟩).trans ?_
    simp [kc2, kc5, k4, k1 _ _ a1]
  have h4 : Try.prog.types.size + 1 = (Try.prog.types.size - 3) + 4 := by
    have : 4 ≤ Try.prog.types.size := of_decide_eq_true (by kernel_rfl)
    omega
  refine ⟨.string (keyBytes [.int .i64 k, .int .u64 (hi p : Nat), .int .u64 (lo p : Nat), .int .i64 n]), ?_⟩
  unfold keyOf
  rw [Try.underlying75]
  simp only [h1, h2, Bool.and_self, if_true, h4]
  show (Try.prog.keyLits _ _ [.int .i64 k, .int .u64 (hi p : Nat), .int .u64 (lo p : Nat), .int .i64 n]).map _ = _
  rw [h3]
  rfl
theorem own_ok {k : Int} {c : ByteArray} {i : Nat} (hk : I64 k) (hc : c.size ≤ maxLen) (hi : i < 4294967296) : ∃ l, keyOf Try.prog 77 (ownV k c i) = some l := by
  have h1 : Try.prog.keyType 77 = true := by kernel_rfl
  have h2 : (ownV k c i).formed Try.prog 77 = true := by kernel_rfl
  have a1 := wf64 hk
  have a3 := wfu32 hi
  have h3 : ∀ F, Try.prog.keyLits (F + 4) 77 [.int .i64 k, .string c, .int .u32 (i : Int)] = some [.int .i64 k, .string c.data.toList, .int .u32 (i : Int)] := by
    intro F
    have k1 : ∀ F, Try.prog.keyLits (F + 1) 3 [.int .i64 k] = some [.int .i64 k] := fun F => by simp [Program.keyLits, Try.underlying3, a1]
    have k2 : ∀ F, Try.prog.keyLits (F + 1) 34 [.int .u32 (i : Int)] = some [.int .u32 (i : Int)] := fun F => by simp [Program.keyLits, Try.underlying34, a3]
    have k3 : ∀ F, Try.prog.keyLits (F + 1) 9 [.string c] = some [.string c.data.toList] := fun F => by simp [Program.keyLits, Try.underlying9, hc]
    show Try.prog.keyLits (F + 1 + 1 + 1 + 1) _ _ = _
    unfold Program.keyLits
    rw [Try.underlying77]
    refine (if_pos ⟨by rw [kc6]; rfl, by kernel_rfl⟩).trans ?_
    simp [kc5, kc7, kc8, k1, k2, k3]
  have h4 : Try.prog.types.size + 1 = (Try.prog.types.size - 3) + 4 := by
    have : 4 ≤ Try.prog.types.size := of_decide_eq_true (by kernel_rfl)
    omega
  refine ⟨.string (keyBytes [.int .i64 k, .string c.data.toList, .int .u32 (i : Int)]), ?_⟩
  unfold keyOf
  rw [Try.underlying77]
  simp only [h1, h2, Bool.and_self, if_true, h4]
  show (Try.prog.keyLits _ _ [.int .i64 k, .string c, .int .u32 (i : Int)]).map _ = _
  rw [h3]
  rfl

/-! ### a map of pointers, by what its keys stand for -/
variable {w w' : World} {kt : TypeId} {m g : Nat} {R R' : Value → Nat → Prop}
/-- block m is a map whose keys point where R says -/
def MapK (w : World) (kt : TypeId) (m : Nat) (R : Value → Nat → Prop) : Prop :=
  ∃ (D : DataW Unit) (n : Nat), w.ownsMap Try.prog kt ptrElem m n D ∧ (∀ key kl, keyOf Try.prog kt key = some kl → (Maps.has D kl = true → ∃ g, R key g) ∧ ∀ g, R key g → Maps.has D kl = true ∧ ∀ z, D.atKey kl z = .lit (.int .i64 (g : Nat)))
theorem MapK.iff (h : MapK w kt m R) (e : ∀ key g, R key g ↔ R' key g) : MapK w kt m R' := by
  obtain ⟨D, n, h1, h2⟩ := h
  exact ⟨D, n, h1, fun key kl hk => ⟨fun hh => by obtain ⟨g, hg⟩ := (h2 key kl hk).1 hh; exact ⟨g, (e key g).1 hg⟩, fun g hg => (h2 key kl hk).2 g ((e key g).2 hg)⟩⟩
theorem MapK.iffK (h : MapK w kt m R) (e : ∀ key kl, keyOf Try.prog kt key = some kl → ∀ g, R key g ↔ R' key g) : MapK w kt m R' := by
  obtain ⟨D, n, h1, h2⟩ := h
  exact ⟨D, n, h1, fun key kl hk => ⟨fun hh => by obtain ⟨g, hg⟩ := (h2 key kl hk).1 hh; exact ⟨g, (e key kl hk g).1 hg⟩, fun g hg => (h2 key kl hk).2 g ((e key kl hk g).2 hg)⟩⟩
theorem MapK.fr {S : Nat → Prop} (h : MapK w kt m R) (f : Fr S w w') (hn : ¬ S m) : MapK w' kt m R := by
  obtain ⟨D, n, h1, h2⟩ := h
  exact ⟨D, n, map_fr h1 f hn, h2⟩
theorem MapK.keep (h : MapK w kt m R) (f : ∀ (k : Nat) (es : Array MapEntry) (c : Nat), w.heap[k]? = some (.map es c) → w'.heap[k]? = some (.map es c)) : MapK w' kt m R := by
  obtain ⟨D, n, ⟨es, clock, hb, r⟩, h2⟩ := h
  exact ⟨D, n, ⟨es, clock, f _ _ _ hb, r⟩, h2⟩
theorem MapK.made (w : World) (kt : TypeId) : MapK (w.alloc (.map #[] 0)) kt w.heap.size (fun _ _ => False) :=
  ⟨.map [], 0, World.ownsMap_made w Try.prog kt ptrElem, fun key kl hk => ⟨fun h => by simp [Maps.has] at h, fun g h => h.elim⟩⟩
theorem MapK.isMap (h : MapK w kt m R) : ∃ es c, w.heap[m]? = some (.map es c) := by
  obtain ⟨D, n, ⟨es, clock, hb, _⟩, _⟩ := h
  exact ⟨es, clock, hb⟩
theorem MapK.yes (h : MapK w kt m R) (K : Keyed Try.prog kt) {t e : TypeId} (ht : Try.prog.underlying t = some (.map kt e)) (hz : ∀ W, (zeroValue e).run Try.prog W = .ok (.pointer none) W) {key : Value} (hk : ∃ l, keyOf Try.prog kt key = some l) (hg : R key g) :
    (Instr.lookup t (.map (some m)) key true).run Try.prog w = .ok (.tuple #[Pt g, .bool true]) w ∧ (Instr.lookup t (.map (some m)) key false).run Try.prog w = .ok (Pt g) w := by
  obtain ⟨D, n, h1, h2⟩ := h
  obtain ⟨kl, hk⟩ := hk
  obtain ⟨hh, ha⟩ := (h2 key kl hk).2 g hg
  constructor
  · obtain ⟨v, ps, hr, hv⟩ := h1.look_ok (t := t) K ht (hz w) (zd := .nil) (zp := []) rfl hk
    rw [hh] at hr
    rw [ha] at hv
    rw [hr, ptr_lit hv]
  · obtain ⟨v, ps, hr, hv⟩ := h1.lookup (t := t) K ht (hz w) (zd := .nil) (zp := []) rfl hk
    rw [ha] at hv
    rw [hr, ptr_lit hv]
theorem MapK.no (h : MapK w kt m R) (K : Keyed Try.prog kt) {t e : TypeId} (ht : Try.prog.underlying t = some (.map kt e)) (hz : ∀ W, (zeroValue e).run Try.prog W = .ok (.pointer none) W) {key : Value} (hk : ∃ l, keyOf Try.prog kt key = some l) (hg : ∀ g, ¬ R key g) :
    (Instr.lookup t (.map (some m)) key true).run Try.prog w = .ok (.tuple #[.pointer none, .bool false]) w ∧ (Instr.lookup t (.map (some m)) key false).run Try.prog w = .ok (.pointer none) w := by
  obtain ⟨D, n, h1, h2⟩ := h
  obtain ⟨kl, hk⟩ := hk
  have hh : Maps.has D kl = false := by
    cases e : Maps.has D kl
    · rfl
    · obtain ⟨g, h⟩ := (h2 key kl hk).1 e; exact (hg g h).elim
  constructor
  · obtain ⟨v, ps, hr, hv⟩ := h1.look_ok (t := t) K ht (hz w) (zd := .nil) (zp := []) rfl hk
    rw [hh] at hr
    rw [Maps.atKey_of_not_has hh] at hv
    rw [hr, ptr_nil hv]
  · obtain ⟨v, ps, hr, hv⟩ := h1.lookup (t := t) K ht (hz w) (zd := .nil) (zp := []) rfl hk
    rw [Maps.atKey_of_not_has hh] at hv
    rw [hr, ptr_nil hv]
/-- distinct things, each of which some thing of a list stands for: no more than that list has -/
theorem length_le_of {α β : Type} (f : β → Option α) : ∀ {l : List α} {F : List β}, l.Pairwise (fun x y => x ≠ y) → (∀ x ∈ l, ∃ y ∈ F, f y = some x) → l.length ≤ F.length
  | [], _, _, _ => Nat.zero_le _
  | x :: l, F, h, hF => by
    obtain ⟨h1, h2⟩ := List.pairwise_cons.1 h
    obtain ⟨y, hy, hfy⟩ := hF x List.mem_cons_self
    obtain ⟨a, b, rfl⟩ := List.append_of_mem hy
    have := length_le_of f (F := a ++ b) h2 (fun z hz => by
      obtain ⟨u, hu, hfu⟩ := hF z (List.mem_cons_of_mem _ hz)
      refine ⟨u, ?_, hfu⟩
      rcases List.mem_append.1 hu with hu | hu
      · exact List.mem_append_left _ hu
      · rcases List.mem_cons.1 hu with rfl | hu
        · rw [hfy] at hfu; cases hfu; exact (h1 _ hz rfl).elim
        · exact List.mem_append_right _ hu)
    simp at this ⊢; omega
theorem MapK.small (h : MapK w kt m R) (K : Keyed Try.prog kt) (E : List (Value × Nat)) (hE : ∀ key g, R key g → (key, g) ∈ E) :
    ∃ D : DataW Unit, w.ownsMap Try.prog kt ptrElem m E.length D ∧ (∀ key kl, keyOf Try.prog kt key = some kl → (Maps.has D kl = true → ∃ g, R key g) ∧ ∀ g, R key g → Maps.has D kl = true ∧ ∀ z, D.atKey kl z = .lit (.int .i64 (g : Nat))) := by
  obtain ⟨D, n, h1, h2⟩ := h
  obtain ⟨es, hD, hpw, hk1⟩ := h1.entries K
  obtain ⟨es', hD', hko⟩ := h1.keysOf
  obtain rfl : es = es' := by rw [hD] at hD'; simpa using hD'
  refine ⟨D, (map_tight h1).mono ?_, h2⟩
  rw [hD]
  show es.length ≤ E.length
  have := length_le_of (fun y : Value × Nat => keyOf Try.prog kt y.1) (l := es.map (·.1)) (F := E) (List.pairwise_map.2 hpw) (fun x hx => by
    obtain ⟨p, hp, rfl⟩ := List.mem_map.1 hx
    obtain ⟨v, hv⟩ := hko p hp
    have hh : Maps.has D p.1 = true := by
      rw [hD, Maps.has_eq, List.any_eq_true]
      exact ⟨p, hp, WideAt.sameKey_self (hk1 p hp)⟩
    obtain ⟨g, hg⟩ := (h2 v p.1 hv).1 hh
    exact ⟨(v, g), hE v g hg, hv⟩)
  simpa using this
theorem MapK.stored (K : Keyed Try.prog kt) {D : DataW Unit} {n : Nat} {key : Value} {kl : Lit} (hk : keyOf Try.prog kt key = some kl) (g : Nat)
    (h2 : ∀ key kl, keyOf Try.prog kt key = some kl → (Maps.has D kl = true → ∃ g, R key g) ∧ ∀ g, R key g → Maps.has D kl = true ∧ ∀ z, D.atKey kl z = .lit (.int .i64 (g : Nat))) (hm : Maps.IsMap D)
    (h1 : w.ownsMap Try.prog kt ptrElem m n (D.put kl (.lit (.int .i64 (g : Nat))))) : MapK w kt m (fun k2 g2 => (k2 = key ∧ g2 = g) ∨ (k2 ≠ key ∧ R k2 g2)) := by
  refine ⟨_, n, h1, fun k2 kl2 hk2 => ?_⟩
  by_cases e : kl2 = kl
  · subst e
    have e2 : k2 = key := K.inj hk2 hk
    subst e2
    refine ⟨fun _ => ⟨g, Or.inl ⟨rfl, rfl⟩⟩, fun g2 hg => ?_⟩
    rcases hg with ⟨_, rfl⟩ | ⟨hne, _⟩
    · exact ⟨Maps.has_put_same hm (K.key hk) _, fun z => Maps.atKey_put_same hm (K.key hk) _ z⟩
    · exact (hne rfl).elim
  · have e2 : k2 ≠ key := fun e2 => e (by rw [e2, hk] at hk2; cases hk2; rfl)
    rw [Maps.has_put_other e]
    refine ⟨fun hh => ?_, fun g2 hg => ?_⟩
    · obtain ⟨g2, hg⟩ := (h2 k2 kl2 hk2).1 hh
      exact ⟨g2, Or.inr ⟨e2, hg⟩⟩
    · rcases hg with ⟨e3, _⟩ | ⟨_, hg⟩
      · exact (e2 e3).elim
      · exact ⟨((h2 k2 kl2 hk2).2 g2 hg).1, fun z => by rw [Maps.atKey_put_other e]; exact ((h2 k2 kl2 hk2).2 g2 hg).2 z⟩
theorem ownsMap_isMap {D : DataW Unit} {n : Nat} (h : w.ownsMap Try.prog kt ptrElem m n D) : Maps.IsMap D := by
  obtain ⟨es, clock, hb, F, _, rfl⟩ := h
  exact ⟨_, rfl⟩
/-- m[key] = pointer -/
theorem MapK.put (h : MapK w kt m R) (K : Keyed Try.prog kt) {t e : TypeId} (ht : Try.prog.underlying t = some (.map kt e)) {key : Value} (hk : ∃ l, keyOf Try.prog kt key = some l) (g : Nat) (E : List (Value × Nat)) (hE : ∀ key g, R key g → (key, g) ∈ E) (hl : E.length < maxLen) :
    ∃ w', (Instr.mapUpdate t (.map (some m)) key (Pt g)).run Try.prog w = .ok () w' ∧ MapK w' kt m (fun k2 g2 => (k2 = key ∧ g2 = g) ∨ (k2 ≠ key ∧ R k2 g2)) ∧ w.mapTurned w' m := by
  obtain ⟨D, h1, h2⟩ := h.small K E hE
  obtain ⟨kl, hk⟩ := hk
  obtain ⟨w', hr, h3, h4⟩ := h1.store (t := t) K ht hl (val := Pt g) (d := .lit (.int .i64 (g : Nat))) (ps := []) hk rfl
  exact ⟨w', hr, MapK.stored K hk g h2 (ownsMap_isMap h1) h3, h4⟩
/-- delete(m, key) -/
theorem MapK.del (h : MapK w kt m R) (K : Keyed Try.prog kt) {t e : TypeId} (ht : Try.prog.underlying t = some (.map kt e)) {key : Value} (hk : ∃ l, keyOf Try.prog kt key = some l) (ty : TypeId) :
    ∃ w', (Builtin.delete_ #[t, kt] ty #[.map (some m), key]).run Try.prog w = .ok (.tuple #[]) w' ∧ MapK w' kt m (fun k2 g2 => k2 ≠ key ∧ R k2 g2) ∧ w.mapTurned w' m := by
  obtain ⟨D, n, h1, h2⟩ := h
  obtain ⟨kl, hk⟩ := hk
  obtain ⟨w', hr, h3, h4⟩ := h1.drop (t := t) K ht hk ty
  refine ⟨w', hr, ⟨_, n, h3, fun k2 kl2 hk2 => ?_⟩, h4⟩
  by_cases e : kl2 = kl
  · subst e
    have e2 : k2 = key := K.inj hk2 hk
    subst e2
    rw [Maps.has_del_same]
    exact ⟨(fun h => by cases h), fun g hg => (hg.1 rfl).elim⟩
  · have e2 : k2 ≠ key := fun e2 => e (by rw [e2, hk] at hk2; cases hk2; rfl)
    rw [Maps.has_del_other e]
    refine ⟨fun hh => ?_, fun g2 hg => ⟨((h2 k2 kl2 hk2).2 g2 hg.2).1, fun z => by rw [Maps.atKey_del_other e]; exact ((h2 k2 kl2 hk2).2 g2 hg.2).2 z⟩⟩
    obtain ⟨g2, hg⟩ := (h2 k2 kl2 hk2).1 hh
    exact ⟨g2, e2, hg⟩
end Go.Proofs.Ytpldkgollhbolaa
