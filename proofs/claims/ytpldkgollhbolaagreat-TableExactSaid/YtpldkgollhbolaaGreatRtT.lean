/-
  What both tables, the program's and the document's own, tell of a lease, by values that are letters. Condition: both are in memory and hold the same leases.
-/
import Derived.Test.YtpldkgollhbolaaGreatRtO
import Derived.Test.YtpldkgollhbolaaGreatRtG
namespace Go.Proofs.YtpldkgollhbolaaGreat
open Go.RowKit Go.Joins Go.Maps

variable {w w' V W W' : World} {O : Nat → Prop} {t u c : Nat} {p : Option Go.Addr} {L : List Ls} {v : Value}
abbrev L9 (k h l n s : Int) (c : ByteArray) (ia u : Int) : Value := .agg #[.int .i64 k, .int .u64 h, .int .u64 l, .int .i64 n, .int .i64 s, .string c, .int .u32 ia, .int .i64 u]
/-- a row that a call made: m leases of a kind R -/
def Made (m : Nat) (R : Option Go.Addr → World → Prop) (W : World) (e : Ending) (W' : World) : Prop := ∃ p c, e = .returned (.slice p m c) ∧ R p W' ∧ Below W.heap.size W W'
structure Rows9 (m : Nat) (R : Option Go.Addr → World → Prop) : Prop where
  st : ∀ p W W', R p W → Below W.heap.size W W' → R p W'
  same : ∀ W p q c d, R p W → R q W → Calls Tryz.prog 10 #[.slice p m c, .slice q m d] W (Gives (.bool true) W)
structure TF (w : World) (t u : Nat) (kx hx lx nx : Int) (cx : ByteArray) (ix ux : Int) : Prop where
  find : ∃ (kz hz lz nz sz : Int) (cz : ByteArray) (iz uz : Int) (b : Bool), (∀ W, Below w.heap.size w W → Calls Tryz.prog 17 #[Pt t, .int .i64 kx, .agg #[.int .u64 hx, .int .u64 lx, .int .i64 nx]] W (Gives (.tuple #[L9 kz hz lz nz sz cz iz uz, .bool b]) W)) ∧
    ∀ W, Below w.heap.size w W → Calls Tryz.prog 26 #[Pt u, .int .i64 kx, .agg #[.int .u64 hx, .int .u64 lx, .int .i64 nx]] W (Gives (.tuple #[L9 kz hz lz nz sz cz iz uz, .bool b]) W)
  of : ∃ (kz hz lz nz sz : Int) (cz : ByteArray) (iz uz : Int) (b : Bool), (∀ W, Below w.heap.size w W → Calls Tryz.prog 16 #[Pt t, .int .i64 kx, .string cx, .int .u32 ix] W (Gives (.tuple #[L9 kz hz lz nz sz cz iz uz, .bool b]) W)) ∧
    ∀ W, Below w.heap.size w W → Calls Tryz.prog 27 #[Pt u, .int .i64 kx, .string cx, .int .u32 ix] W (Gives (.tuple #[L9 kz hz lz nz sz cz iz uz, .bool b]) W)
  next : ∃ (nn : Int) (nb : Bool), (∀ W, Below w.heap.size w W → Calls Tryz.prog 15 #[Pt t] W (Gives (.tuple #[.int .i64 nn, .bool nb]) W)) ∧
    ∀ W, Below w.heap.size w W → Calls Tryz.prog 28 #[Pt u] W (Gives (.tuple #[.int .i64 nn, .bool nb]) W)
  size : ∃ nl : Int, (∀ W, Below w.heap.size w W → Calls Tryz.prog 20 #[Pt t] W (Gives (.int .i64 nl) W)) ∧ ∀ W, Below w.heap.size w W → Calls Tryz.prog 29 #[Pt u] W (Gives (.int .i64 nl) W)
  client : ∃ (m : Nat) (R : Option Go.Addr → World → Prop), Rows9 m R ∧ (∀ W, Below w.heap.size w W → Calls Tryz.prog 19 #[Pt t, .string cx] W (Made m R W)) ∧ ∀ W, Below w.heap.size w W → Calls Tryz.prog 30 #[Pt u, .string cx] W (Made m R W)
  meets : ∃ (m : Nat) (R : Option Go.Addr → World → Prop), Rows9 m R ∧ (∀ W, Below w.heap.size w W → Calls Tryz.prog 31 #[Pt t, .int .i64 kx, .agg #[.int .u64 hx, .int .u64 lx, .int .i64 nx]] W (Made m R W)) ∧
    ∀ W, Below w.heap.size w W → Calls Tryz.prog 32 #[Pt u, .int .i64 kx, .agg #[.int .u64 hx, .int .u64 lx, .int .i64 nx]] W (Made m R W)
  due : ∃ (m : Nat) (R : Option Go.Addr → World → Prop), Rows9 m R ∧ (∀ W, Below w.heap.size w W → Calls Tryz.prog 18 #[Pt t, .int .i64 ux] W (Made m R W)) ∧ ∀ W, Below w.heap.size w W → Calls Tryz.prog 33 #[Pt u, .int .i64 ux] W (Made m R W)
theorem tell_form (o : Option Ls) : ∃ (k h l n s : Int) (c : ByteArray) (ia u : Int) (b : Bool), tellV o = .tuple #[L9 k h l n s c ia u, .bool b] := by
  cases o with
  | none => exact ⟨_, _, _, _, _, _, _, _, _, rfl⟩
  | some y => exact ⟨_, _, _, _, _, _, _, _, _, rfl⟩
theorem rows_lst {M : List Ls} (hm : M.length ≤ maxLen) : Rows9 M.length (fun p W => LstL p M W) := ⟨fun _ _ _ h hb => h.step hb, fun W p q c d h k => same_any p q c d M hm W h k⟩
theorem made_of {M : List Ls} {e : Ending} (h : LsPost W M e W') : Made M.length (fun p W => LstL p M W) W e W' := by
  obtain ⟨v, rfl, hr, hb⟩ := h
  obtain ⟨p, c, rfl, hl, _⟩ := hr.lst
  exact ⟨p, c, rfl, hl, hb⟩
theorem gives_of_same {x : Value} {e : Ending} (h : Same x W e W') : Gives x W e W' := by
  obtain ⟨h1, rfl⟩ := h
  exact ⟨h1, Below.refl _ _⟩
theorem t_facts (h : IsTab w t O L) (r : RTab w u p c L) (x : Ls) (ok : x.ok) : TF w t u x.kind (hi x.p : Nat) (lo x.p : Nat) x.n x.cl (x.ia : Nat) x.un := by
  have TL := h.tabL
  have h24 := TL.good.size
  have hok := okL_tab TL
  have fl : ∀ P : Ls → Bool, (L.filter P).length ≤ maxLen := fun P => by have := List.length_filter_le P L; unfold maxLen; omega
  refine ⟨?_, ?_, ⟨nextL L, decide (L ≠ []), fun W hb => (next_any (h.below hb)).mono fun _ _ k => gives_of_same k, fun W hb => rnext_any (r.step hb) (by omega)⟩,
    ⟨(L.length : Int), fun W hb => (size_any (h.below hb)).mono fun _ _ k => gives_of_same k, fun W hb => (rsize_any (r.step hb)).mono fun _ _ k => gives_of_same k⟩,
    ⟨_, _, rows_lst (fl (clientB x.cl)), fun W hb => (client_any (h.below hb) x.cl).mono fun _ _ k => made_of k, fun W hb => (rclient_any (r.step hb) (by omega) x.cl).mono fun _ _ k => made_of k.weak⟩,
    ⟨_, _, rows_lst (fl (meetsB x.kind x.p x.n)), fun W hb => (meets_any2 (h.below hb) x.kind ok.p x.n).mono fun _ _ k => made_of k, fun W hb => (rmeets9_any (r.step hb) (by omega) hok x.kind ok.p x.n).mono fun _ _ k => made_of k.weak⟩,
    ⟨(L.filter (dueB x.un)).length, fun q W => ∃ R, R.Perm (L.filter (dueB x.un)) ∧ DueL R ∧ LstL q R W, ⟨fun q W W' ⟨R, h1, h2, h3⟩ hb => ⟨R, h1, h2, h3.step hb⟩, fun W q s c d ⟨R, h1, h2, h3⟩ ⟨R2, k1, k2, k3⟩ => ?_⟩, fun W hb => (tdue_any (h.below hb) x.un).mono ?_, fun W hb => (rdue_any (r.step hb) TL x.un).mono ?_⟩⟩
  · obtain ⟨k, hh, l, n, s, cc, ia, un, b, e⟩ := tell_form (findL L x.kind x.p x.n)
    exact ⟨k, hh, l, n, s, cc, ia, un, b, fun W hb => by have := find_any (h.below hb) ok.kind ok.p ok.n; rw [e] at this; exact this, fun W hb => by have := rfind_any (r.step hb) (by omega) x.kind x.p x.n; rw [e] at this; exact this⟩
  · obtain ⟨k, hh, l, n, s, cc, ia, un, b, e⟩ := tell_form (ofL L x.kind x.cl x.ia)
    exact ⟨k, hh, l, n, s, cc, ia, un, b, fun W hb => by have := of_any (h.below hb) ok.kind ok.cl ok.ia; rw [e] at this; exact this, fun W hb => by have := rof_any (r.step hb) (by omega) x.kind x.cl x.ia; rw [e] at this; exact this⟩
  · have e : R = R2 := dueL_unique (h1.trans k1.symm) h2 k2
    subst e
    have := same_any q s c d R (by rw [h1.length_eq]; exact fl _) W h3 k3
    rw [h1.length_eq] at this
    exact this
  · rintro e W' ⟨R, h1, h2, v, rfl, hr, hb2⟩
    obtain ⟨q, c, rfl, hl, _⟩ := hr.lst
    exact ⟨q, c, by rw [h1.length_eq], ⟨R, h1, h2, hl⟩, hb2⟩
  · rintro e W' ⟨R, h1, h2, v, rfl, hr, hb2, _⟩
    obtain ⟨q, c, rfl, hl, _⟩ := hr.lst
    exact ⟨q, c, by rw [h1.length_eq], ⟨R, h1, h2, hl⟩, hb2⟩
end Go.Proofs.YtpldkgollhbolaaGreat
