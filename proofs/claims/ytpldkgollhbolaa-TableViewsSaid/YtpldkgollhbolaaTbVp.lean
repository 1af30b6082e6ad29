/-
  What a table tells of one of its leases, by values that are letters. Condition: the table is one in memory.
-/
import Derived.Test.YtpldkgollhbolaaTbVm
namespace Go.Proofs.Ytpldkgollhbolaa
open Go.RowKit Go.Joins Go.Maps

variable {w w' V W W' : World} {t km om : Nat} {O : Nat → Prop} {v : Value} {E : List En} {L : List Ls}
/-- a row of leases, in any later world -/
def VLd (w : World) (b o : Nat) (L : List Ls) (W : World) : Prop := Below w.heap.size w W ∧ ∀ (k : Nat) (x : Ls), L[k]? = some x → AtL b (o + k * 8) x W
theorem VLd.step {b o : Nat} (h : VLd w b o L W) (hb : Below W.heap.size W W') : VLd w b o L W' := ⟨chain h.1 hb, fun k x hk => (h.2 k x hk).step hb⟩
theorem VLd.mk {b o : Nat} (h : LstL (some ⟨b, o, none⟩) L w) : VLd w b o L w := ⟨Below.refl _ _, fun k x hk => by
  obtain ⟨b2, o2, e, h2⟩ := h k x hk
  cases e
  exact h2⟩
/-- a lease's eight cells, by values that are letters -/
def Vl8 (b o : Nat) (k h l n s : Int) (c : ByteArray) (ia u : Int) (W : World) : Prop := W.cell? ⟨b, o, none⟩ = some (.int .i64 k) ∧ W.cell? ⟨b, o + 1, none⟩ = some (.int .u64 h) ∧ W.cell? ⟨b, o + 2, none⟩ = some (.int .u64 l) ∧
  W.cell? ⟨b, o + 3, none⟩ = some (.int .i64 n) ∧ W.cell? ⟨b, o + 4, none⟩ = some (.int .i64 s) ∧ W.cell? ⟨b, o + 5, none⟩ = some (.string c) ∧ W.cell? ⟨b, o + 6, none⟩ = some (.int .u32 ia) ∧ W.cell? ⟨b, o + 7, none⟩ = some (.int .i64 u)
theorem Vl8.step {b o : Nat} {k h l n s : Int} {c : ByteArray} {ia u : Int} (H : Vl8 b o k h l n s c ia u W) (hb : Below W.heap.size W W') : Vl8 b o k h l n s c ia u W' := by
  obtain ⟨h0, h1, h2, h3, h4, h5, h6, h7⟩ := H
  exact ⟨keep_cell hb h0, keep_cell hb h1, keep_cell hb h2, keep_cell hb h3, keep_cell hb h4, keep_cell hb h5, keep_cell hb h6, keep_cell hb h7⟩
theorem Vl8.new (W : World) (k h l n s : Int) (c : ByteArray) (ia u : Int) (T : TypeId) : Vl8 W.heap.size 0 k h l n s c ia u (W.alloc (.cells #[.int .i64 k, .int .u64 h, .int .u64 l, .int .i64 n, .int .i64 s, .string c, .int .u32 ia, .int .i64 u] T)) := by
  have h := heap_alloc_new W (.cells #[.int .i64 k, .int .u64 h, .int .u64 l, .int .i64 n, .int .i64 s, .string c, .int .u32 ia, .int .i64 u] T)
  exact ⟨cell_at h 0, cell_at h 1, cell_at h 2, cell_at h 3, cell_at h 4, cell_at h 5, cell_at h 6, cell_at h 7⟩
theorem Vl8.lt {b o : Nat} {k h l n s : Int} {c : ByteArray} {ia u : Int} (H : Vl8 b o k h l n s c ia u W) : b < W.heap.size := by
  have h0 := H.1
  rcases Nat.lt_or_ge b W.heap.size with h | h
  · exact h
  · unfold World.cell? at h0; rw [Array.getElem?_eq_none h] at h0; cases h0
abbrev L8 (k h l n s : Int) (c : ByteArray) (ia u : Int) : Value := .agg #[.int .i64 k, .int .u64 h, .int .u64 l, .int .i64 n, .int .i64 s, .string c, .int .u32 ia, .int .i64 u]
/-- what a table tells of the lease at place i of its row, by letters -/
structure VF (V : World) (t b o i : Nat) (L : List Ls) (now : Int) (kx hx lx nx sx : Int) (cx : ByteArray) (ix ux : Int) (RX RM : Option Go.Addr → World → Prop) (m : Nat) (cnt : Nat → Nat) : Prop where
  cells : ∀ W, VLd V b o L W → Vl8 b (o + i * 8) kx hx lx nx sx cx ix ux W
  find : ∀ W, Below V.heap.size V W → Calls Try.prog 13 #[Pt t, .int .i64 kx, .agg #[.int .u64 hx, .int .u64 lx, .int .i64 nx]] W (Gives (.tuple #[L8 kx hx lx nx sx cx ix ux, .bool true]) W)
  of : ∃ (kz hz lz nz sz : Int) (cz : ByteArray) (iz uz : Int) (zb : Bool), (∀ W, Below V.heap.size V W → Calls Try.prog 14 #[Pt t, .int .i64 kx, .string cx, .int .u32 ix] W (Gives (.tuple #[L8 kz hz lz nz sz cz iz uz, .bool zb]) W)) ∧
    (sx = 1 → zb = true ∧ kz = kx ∧ hz = hx ∧ lz = lx ∧ nz = nx ∧ sz = sx ∧ cz = cx ∧ iz = ix ∧ uz = ux)
  meets : ∀ W, Below V.heap.size V W → Calls Try.prog 16 #[Pt t, .int .i64 kx, .agg #[.int .u64 hx, .int .u64 lx, .int .i64 nx]] W (fun e W' => ∃ p c, e = .returned (.slice p 1 c) ∧ RX p W' ∧ Below W.heap.size W W')
  rxs : ∀ p W W', RX p W → Below W.heap.size W W' → RX p W'
  same : ∀ W p c g, RX p W → Vl8 g 0 kx hx lx nx sx cx ix ux W → Calls Try.prog 15 #[.slice p 1 c, .slice (some ⟨g, 0, none⟩) 1 1] W (Gives (.bool true) W)
  client : ∀ W, Below V.heap.size V W → Calls Try.prog 17 #[Pt t, .string cx] W (fun e W' => ∃ p c, e = .returned (.slice p m c) ∧ RM p W' ∧ Below W.heap.size W W')
  rms : ∀ p W W', RM p W → Below W.heap.size W W' → RM p W'
  mine : ∀ k, k < m → ∃ (ky hy ly ny sy : Int) (cy : ByteArray) (iy uy : Int) (bb : Bool), (∀ p W, RM p W → ∃ g og, p = some ⟨g, og, none⟩ ∧ Vl8 g (og + k * 8) ky hy ly ny sy cy iy uy W) ∧
    (∀ W, (binOp .eql 36 (L8 ky hy ly ny sy cy iy uy) (L8 kx hx lx nx sx cx ix ux)).run Try.prog W = .ok (.bool bb) W) ∧ cnt (k + 1) = cnt k + (if bb = true then 1 else 0)
  cnt0 : cnt 0 = 0
  cntm : cnt m = if sx = 1 then 1 else 0
  cntk : ∀ k, cnt k ≤ k
  small : m ≤ 1024
  self : ∀ W, (binOp .neq 36 (L8 kx hx lx nx sx cx ix ux) (L8 kx hx lx nx sx cx ix ux)).run Try.prog W = .ok (.bool false) W
  due : dueN L now (i + 1) = dueN L now i + (if ux ≤ now then 1 else 0)
  least : nextL (L.take (i + 1)) = if i = 0 then ux else if ux < nextL (L.take i) then ux else nextL (L.take i)
theorem lst_single {g : Nat} {x : Ls} (h : AtL g 0 x W) : LstL (some ⟨g, 0, none⟩) [x] W := fun k y hk => by
  cases k with
  | zero => simp at hk; subst hk; exact ⟨g, 0, rfl, h⟩
  | succ k => simp at hk
theorem v_facts {b o i : Nat} {now : Int} {x : Ls} (T : IsTab V t O L) (hx : L[i]? = some x) : ∃ (kx hx lx nx sx : Int) (cx : ByteArray) (ix ux : Int) (RX RM : Option Go.Addr → World → Prop) (m : Nat) (cnt : Nat → Nat), Hid (VF V t b o i L now kx hx lx nx sx cx ix ux RX RM m cnt) := by
  have TL := T.tabL
  have hmem := List.mem_of_getElem? hx
  obtain ⟨okx, _⟩ := TL.good.ok x hmem
  refine ⟨x.kind, (hi x.p : Nat), (lo x.p : Nat), x.n, x.st, x.cl, (x.ia : Nat), x.un, fun p W => LstL p [x] W, fun p W => LstL p (L.filter (clientB x.cl)) W, (L.filter (clientB x.cl)).length, cntV (L.filter (clientB x.cl)) x, hide ⟨fun W H => H.2 i x hx, fun W hb => ?_, ?_, fun W hb => ?_, fun p W W' h hb => h.step hb, fun W p c g h8 h => ?_, fun W hb => ?_, fun p W W' h hb => h.step hb, fun k hk => ?_, rfl, cntV_all TL hmem, fun k => ?_, ?_, fun W => ?_, dueN_step hx, least_step hx⟩⟩
  · have := find_any (T.below hb) okx.kind okx.p okx.n
    rw [find_mem TL.good hmem] at this
    exact this
  · cases e : ofL L x.kind x.cl x.ia with
    | none =>
      refine ⟨0, 0, 0, 0, 0, ⟨#[]⟩, 0, 0, false, fun W hb => ?_, fun hs => ?_⟩
      · have := of_any (T.below hb) okx.kind okx.cl okx.ia
        rw [e] at this
        exact this
      · rw [of_mem TL.good hmem hs] at e; cases e
    | some z =>
      refine ⟨z.kind, (hi z.p : Nat), (lo z.p : Nat), z.n, z.st, z.cl, (z.ia : Nat), z.un, true, fun W hb => ?_, fun hs => ?_⟩
      · have := of_any (T.below hb) okx.kind okx.cl okx.ia
        rw [e] at this
        exact this
      · rw [of_mem TL.good hmem hs] at e; cases e
        exact ⟨rfl, rfl, rfl, rfl, rfl, rfl, rfl, rfl, rfl⟩
  · refine (meets_any2 (T.below hb) x.kind okx.p x.n).mono ?_
    rintro e W' ⟨v, rfl, hr, hb2⟩
    rw [meets_mem TL hmem] at hr
    obtain ⟨p, c, rfl, hl, _⟩ := hr.lst
    exact ⟨p, c, rfl, hl, hb2⟩
  · exact same_any p (some ⟨g, 0, none⟩) c 1 [x] (by unfold maxLen; simp) W h8 (lst_single h)
  · refine (client_any (T.below hb) x.cl).mono ?_
    rintro e W' ⟨v, rfl, hr, hb2⟩
    obtain ⟨p, c, rfl, hl, _⟩ := hr.lst
    exact ⟨p, c, rfl, hl, hb2⟩
  · obtain ⟨y, hy⟩ : ∃ y, (L.filter (clientB x.cl))[k]? = some y := ⟨_, List.getElem?_eq_getElem hk⟩
    refine ⟨y.kind, (hi y.p : Nat), (lo y.p : Nat), y.n, y.st, y.cl, (y.ia : Nat), y.un, eqB y x, fun p W h => ?_, fun W => eq_run y x W, cntV_step hy⟩
    obtain ⟨g, og, e, h2⟩ := h k y hy
    exact ⟨g, og, e, h2⟩
  · unfold cntV
    exact Nat.le_trans (List.length_filter_le _ _) (by rw [List.length_take]; omega)
  · exact Nat.le_trans (List.length_filter_le _ _) TL.good.size
  · rw [neq_run x x W, eqB_iff.2 rfl]; rfl
end Go.Proofs.Ytpldkgollhbolaa
