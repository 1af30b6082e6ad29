/-
  The contract of the law's awake: it returns true. No condition.
-/
import Derived.Test.YtpldkgollhbolaaGreatTbLs
namespace Go.Proofs.YtpldkgollhbolaaGreat
open Go.RowKit Go.Joins Go.Maps

variable {w w' V W W' : World} {t km om : Nat} {O : Nat → Prop} {v : Value} {E : List En} {L : List Ls}
abbrev hA : Ls := hostL 5 ⟨#[97]⟩ 10
abbrev hB : Ls := hostL 6 ⟨#[98]⟩ 9
abbrev hC : Ls := hostL 7 ⟨#[97]⟩ 10
abbrev hZ : Ls := hostL 6 ⟨#[]⟩ 0
theorem k1 : applyE [] [⟨false, hA⟩, ⟨false, hB⟩] = 0 := by kernel_rfl
theorem k2 : applyL [] [⟨false, hA⟩, ⟨false, hB⟩] = [hA, hB] := by kernel_rfl
theorem k3 : applyE [hA, hB] [⟨false, hC⟩] = 90 := by kernel_rfl
theorem k4 : applyL [hA, hB] [⟨false, hC⟩] = [hA, hB] := by kernel_rfl
theorem k5 : nextL [hA, hB] = 9 := by kernel_rfl
theorem k6 : ofL [hA, hB] 1 ⟨#[97]⟩ 0 = some hA := by kernel_rfl
theorem k7 : findL [hA, hB] 1 hZ.p hZ.n = some hB := by kernel_rfl
theorem k8 : [hA, hB].filter (dueB 10) = [hA, hB] := by kernel_rfl
theorem k9 : dueC hB hA < 0 := by
  have : dueC hB hA = -1 := by kernel_rfl
  omega
theorem k10 : [hA, hB].filter (clientB ⟨#[97]⟩) = [hA] := by kernel_rfl
theorem host_ok (n : Nat) (hn : n < 18446744073709551616) (c : ByteArray) (hc : c.size ≤ maxLen) (u : Int) (hu : I64 u) : (hostL n c u).ok :=
  ⟨by show I64 1; unfold I64; decide, by show Fits n; unfold Fits; omega, by show I64 128; unfold I64; decide, by show I64 1; unfold I64; decide, hc, by show 0 < 4294967296; omega, hu⟩
theorem lst_block {b : Nat} {l : List Ch} {cur : Array Value} {ty : TypeId} (h : W.heap[b]? = some (.cells cur ty (0, 0))) (e : cur.toList = cellsC l) : LstC (some ⟨b, 0, none⟩) l W := fun k c hk => by
  refine ⟨b, 0, rfl, ?_⟩
  have C : ∀ i, i < 9 → W.cell? ⟨b, 0 + k * 9 + i, none⟩ = (wdC c)[i]? := fun i hi => by
    rw [Nat.zero_add, cell_at h, ← Array.getElem?_toList, e, cellsC_at l k i c hk hi]
  exact ⟨C 0 (by omega), C 1 (by omega), C 2 (by omega), C 3 (by omega), C 4 (by omega), C 5 (by omega), C 6 (by omega), C 7 (by omega), C 8 (by omega)⟩
theorem lstL_block {b : Nat} {l : List Ls} {cur : Array Value} {ty : TypeId} (h : W.heap[b]? = some (.cells cur ty (0, 0))) (e : cur.toList = cellsL l) : LstL (some ⟨b, 0, none⟩) l W := fun k x hk => by
  refine ⟨b, 0, rfl, ?_⟩
  have C : ∀ i, i < 8 → W.cell? ⟨b, 0 + k * 8 + i, none⟩ = (wdL x)[i]? := fun i hi => by
    rw [Nat.zero_add, cell_at h, ← Array.getElem?_toList, e, cellsL_at l k i x hk hi]
  exact ⟨C 0 (by omega), C 1 (by omega), C 2 (by omega), C 3 (by omega), C 4 (by omega), C 5 (by omega), C 6 (by omega), C 7 (by omega)⟩
/-- a table made since w -/
def Own (w W : World) (t : Nat) (L : List Ls) : Prop := Below w.heap.size w W ∧ IsTab W t (New w W) L
theorem Own.step (h : Own w W t L) (hb : Below W.heap.size W W') : Own w W' t L :=
  ⟨chain h.1 hb, (h.2.below hb).wider (fun _ hk => ⟨hk.1, Nat.lt_of_lt_of_le hk.2 hb.size⟩) (fun _ hk => hk.2)⟩
theorem Own.applied (h : Own w W t L) {M : List Ls} (f : Fr (New w W) W W') (ht : IsTab W' t (Gr (New w W) W W') M) : Own w W' t M :=
  ⟨below_new h.1 f, ht.wider (new_gr h.1.size f.size) (fun _ hk => hk.2)⟩
/-- Apply at a table of the call's own, with a list that lies outside it -/
theorem Own.apply (h : Own w W t L) {cs : List Ch} (ok : okL cs) (hl : cs.length ≤ 2000) {p : Option Go.Addr} {cap : Nat} (hu : LstC p cs W) (hn : ∀ b o, p = some ⟨b, o, none⟩ → cs ≠ [] → b < w.heap.size ∨ ∃ cur fz, W.heap[b]? = some (.cells cur 41 fz)) :
    Calls Tryz.prog 7 #[Pt t, .slice p cs.length cap] W (fun e W' => e = .returned (.int .i64 (applyE L cs : Nat)) ∧ Own w W' t (applyL L cs)) := by
  obtain ⟨hb, km, om, v, E, T, hs, hp⟩ := h
  refine (apply_any (O := Tg t km om v E) ⟨km, om, v, E, T.tight, hs, hp⟩ ok hl hu (fun b o e hne => ?_)).mono ?_
  · rcases hn b o e hne with h2 | ⟨cur, fz, h1⟩
    · intro hk
      have := (T.tgO b hk).1
      omega
    · exact T.notTg h1
  · rintro e W' ⟨rfl, F, I⟩
    refine ⟨rfl, below_new hb (F.mono (fun i _ hk => T.tgO i hk)), I.wider (fun k hk => ?_) (fun _ hk => hk.2)⟩
    rcases hk with hk | hk
    · exact ⟨(T.tgO k hk).1, Nat.lt_of_lt_of_le (T.tgO k hk).2 F.size⟩
    · exact ⟨Nat.le_trans hb.size hk.1, hk.2⟩
/-- what awake reads of a, b, c, z -/
structure Known (a b c z : Ls) : Prop where
  e1 : applyE [] [⟨false, a⟩, ⟨false, b⟩] = 0
  l1 : applyL [] [⟨false, a⟩, ⟨false, b⟩] = [a, b]
  e2 : applyE [a, b] [⟨false, c⟩] = 90
  l2 : applyL [a, b] [⟨false, c⟩] = [a, b]
  nx : nextL [a, b] = 9
  of : ofL [a, b] 1 ⟨#[97]⟩ 0 = some a
  fi : findL [a, b] 1 z.p z.n = some b
  du : [a, b].filter (dueB 10) = [a, b]
  lt : dueC b a < 0
  cl : [a, b].filter (clientB ⟨#[97]⟩) = [a]
  ok : a.ok ∧ b.ok ∧ c.ok ∧ z.ok
theorem Known.due {a b c z : Ls} (h : Known a b c z) {R : List Ls} (hp : R.Perm ([a, b].filter (dueB 10))) (hs : DueL R) : R = [b, a] := by
  rw [h.du] at hp
  exact dueL_unique (hp.trans (.swap ..)) hs (by simp [h.lt])
theorem okL_one {c : Ch} (h : c.l.ok) : okL [c] := fun x hx => by rw [List.mem_singleton.1 hx]; exact h
theorem okL_two {c d : Ch} (h : c.l.ok) (k : d.l.ok) : okL [c, d] := fun x hx => by
  rcases List.mem_cons.1 hx with rfl | hx
  · exact h
  · rw [List.mem_singleton.1 hx]; exact k
/-- what the law's last word reads: the table, two leases -/
structure AwH (w : World) (t g6 g8 : Nat) (a b : Ls) (W : World) : Prop where
  own : Own w W t [a, b]
  x6 : W.heap[g6]? = some (.cells (leaseC a) 30 (0, 0))
  x8 : W.heap[g8]? = some (.cells (leaseC b) 30 (0, 0))
theorem AwH.step {g6 g8 : Nat} {a b : Ls} (h : AwH w t g6 g8 a b W) (hb : Below W.heap.size W W') : AwH w t g6 g8 a b W' :=
  ⟨h.own.step hb, (Fr.ofBelow hb).keep h.x6 (fun e => e), (Fr.ofBelow hb).keep h.x8 (fun e => e)⟩
theorem AwH.flat {g6 g8 : Nat} {a b : Ls} (h : AwH w t g6 g8 a b W) : AwH w t g6 g8 a b W ∧ W.cell? ⟨g6, 0, none⟩ = some (.int .i64 a.kind) ∧ W.cell? ⟨g6, 1, none⟩ = some (.int .u64 (hi a.p : Nat)) ∧ W.cell? ⟨g6, 2, none⟩ = some (.int .u64 (lo a.p : Nat)) ∧ W.cell? ⟨g6, 3, none⟩ = some (.int .i64 a.n) ∧ W.cell? ⟨g6, 4, none⟩ = some (.int .i64 a.st) ∧ W.cell? ⟨g6, 5, none⟩ = some (.string a.cl) ∧ W.cell? ⟨g6, 6, none⟩ = some (.int .u32 (a.ia : Int)) ∧ W.cell? ⟨g6, 7, none⟩ = some (.int .i64 a.un) ∧ W.cell? ⟨g8, 0, none⟩ = some (.int .i64 b.kind) ∧ W.cell? ⟨g8, 1, none⟩ = some (.int .u64 (hi b.p : Nat)) ∧ W.cell? ⟨g8, 2, none⟩ = some (.int .u64 (lo b.p : Nat)) ∧ W.cell? ⟨g8, 3, none⟩ = some (.int .i64 b.n) ∧ W.cell? ⟨g8, 4, none⟩ = some (.int .i64 b.st) ∧ W.cell? ⟨g8, 5, none⟩ = some (.string b.cl) ∧ W.cell? ⟨g8, 6, none⟩ = some (.int .u32 (b.ia : Int)) ∧ W.cell? ⟨g8, 7, none⟩ = some (.int .i64 b.un) := by
  obtain ⟨a0, a1, a2, a3, a4, a5, a6, a7⟩ := cells8 h.x6
  obtain ⟨b0, b1, b2, b3, b4, b5, b6, b7⟩ := cells8 h.x8
  exact ⟨h, a0, a1, a2, a3, a4, a5, a6, a7, b0, b1, b2, b3, b4, b5, b6, b7⟩
set_option maxRecDepth 100000 in
set_option maxHeartbeats 8000000 in
theorem awake_of {a b c z : Ls} (K : Known a b c z) (h5 : ∀ W, Calls Tryz.prog 14 #[.int .u64 5, .string ⟨#[97]⟩, .int .i64 10] W (Gives (Lv a) W)) (h6 : ∀ W, Calls Tryz.prog 14 #[.int .u64 6, .string ⟨#[98]⟩, .int .i64 9] W (Gives (Lv b) W))
    (h7 : ∀ W, Calls Tryz.prog 14 #[.int .u64 7, .string ⟨#[97]⟩, .int .i64 10] W (Gives (Lv c) W)) (hz : ∀ W, Calls Tryz.prog 14 #[.int .u64 6, .string ⟨#[]⟩, .int .i64 0] W (Gives (Lv z) W)) (w : World) :
    Calls Tryz.prog 4 #[] w (Gives (.bool true) w) := by
  have HK := hide K
  have H5 := hide h5
  have H6 := hide h6
  have H7 := hide h7
  have HZ := hide hz
  have N0 := hide (new_any w)
  clear K h5 h6 h7 hz
  go_enter Tryz.func4, Tryz.ntmps4
  go_wp2_with fail
  refine N0.out.mono ?_
  rintro e w1 ⟨t, rfl, hb, hT⟩
  have T1 : Hid (Own w w1 t []) := hide ⟨hb, hT⟩
  clear hb hT N0
  go_wp2_with fail
  refine (H5.out _).mono ?_
  rintro e w2 ⟨rfl, hb⟩
  have T2 := hide (T1.out.step hb)
  clear hb T1
  go_wp2_with fail
  refine (H6.out _).mono ?_
  rintro e w3 ⟨rfl, hb⟩
  have T3 := hide (T2.out.step hb)
  clear hb T2
  have BX := heap_alloc_new w3 (.cells #[.bool false, .int .i64 a.kind, .int .u64 (hi a.p : Nat), .int .u64 (lo a.p : Nat), .int .i64 a.n, .int .i64 a.st, .string a.cl, .int .u32 (a.ia : Int), .int .i64 a.un, .bool false, .int .i64 b.kind, .int .u64 (hi b.p : Nat), .int .u64 (lo b.p : Nat), .int .i64 b.n, .int .i64 b.st, .string b.cl, .int .u32 (b.ia : Int), .int .i64 b.un] 41)
  have A1 := (T3.out.step (below_alloc w3 (.cells #[.bool false, .int .i64 a.kind, .int .u64 (hi a.p : Nat), .int .u64 (lo a.p : Nat), .int .i64 a.n, .int .i64 a.st, .string a.cl, .int .u32 (a.ia : Int), .int .i64 a.un, .bool false, .int .i64 b.kind, .int .u64 (hi b.p : Nat), .int .u64 (lo b.p : Nat), .int .i64 b.n, .int .i64 b.st, .string b.cl, .int .u32 (b.ia : Int), .int .i64 b.un] 41))).apply (cs := [⟨false, a⟩, ⟨false, b⟩]) (cap := 2) (okL_two HK.out.ok.1 HK.out.ok.2.1) (by simp) (lst_block (l := [⟨false, a⟩, ⟨false, b⟩]) BX rfl) (fun b o e _ => by cases e; exact Or.inr ⟨_, _, BX⟩)
  rw [HK.out.e1, HK.out.l1, show ((0 : Nat) : Int) = 0 from rfl] at A1
  have A2 := hide A1
  clear BX T3 A1
  go_wp2_with fail
  refine A2.out.mono ?_
  rintro e w4 ⟨rfl, hT⟩
  have T4 := hide hT
  clear hT A2
  go_wp2_with fail
  refine (H7.out _).mono ?_
  rintro e w5 ⟨rfl, hb⟩
  have T5 := hide (T4.out.step hb)
  clear hb T4
  have BX := heap_alloc_new w5 (.cells #[.bool false, .int .i64 c.kind, .int .u64 (hi c.p : Nat), .int .u64 (lo c.p : Nat), .int .i64 c.n, .int .i64 c.st, .string c.cl, .int .u32 (c.ia : Int), .int .i64 c.un] 41)
  have A1 := (T5.out.step (below_alloc w5 (.cells #[.bool false, .int .i64 c.kind, .int .u64 (hi c.p : Nat), .int .u64 (lo c.p : Nat), .int .i64 c.n, .int .i64 c.st, .string c.cl, .int .u32 (c.ia : Int), .int .i64 c.un] 41))).apply (cs := [⟨false, c⟩]) (cap := 1) (okL_one HK.out.ok.2.2.1) (by simp) (lst_block (l := [⟨false, c⟩]) BX rfl) (fun b o e _ => by cases e; exact Or.inr ⟨_, _, BX⟩)
  rw [HK.out.e2, HK.out.l2, show ((90 : Nat) : Int) = 90 from rfl] at A1
  have A2 := hide A1
  clear BX T5 A1
  go_wp2_with fail
  refine A2.out.mono ?_
  rintro e w6 ⟨rfl, hT⟩
  have T6 := hide hT
  have NX := next_some hT.2 (by simp)
  rw [HK.out.nx] at NX
  have NX2 := hide NX
  have OF := of_any hT.2 (k := 1) (c := ⟨#[97]⟩) (ia := 0) (by unfold I64; decide) (by decide) (by decide)
  rw [HK.out.of, show ((0 : Nat) : Int) = 0 from rfl] at OF
  have OF2 := hide OF
  clear hT A2 NX OF
  go_wp2_with fail
  refine NX2.out.mono ?_
  rintro e w6' ⟨rfl, rfl⟩
  go_wp2_with fail
  refine OF2.out.mono ?_
  rintro e w7 ⟨rfl, hb⟩
  have T7 := hide ((T6.out.step hb).step (below_alloc w7 (.cells (leaseC a) 30)))
  have X7 := hide (heap_alloc_new w7 (.cells (leaseC a) 30))
  clear hb T6 NX2 OF2
  rw [show tellV (some a) = .tuple #[Lv a, .bool true] from rfl]
  go_wp2_with fail
  refine (HZ.out _).mono ?_
  rintro e w8 ⟨rfl, hb⟩
  have T8 := hide (T7.out.step hb)
  have X8 := hide ((Fr.ofBelow hb).keep X7.out (fun e => e))
  have FI := find_any T8.out.2 (k := 1) (p := z.p) (n := z.n) (by unfold I64; decide) HK.out.ok.2.2.2.p HK.out.ok.2.2.2.n
  rw [HK.out.fi] at FI
  have FI2 := hide FI
  clear hb T7 X7 FI
  have FF : ∀ W, (Instr.field 30 (Lv z) 1).run Tryz.prog W = .ok (Pv z.p z.n) W := fun _ => by kernel_rfl
  go_wp2_with fail
  refine FI2.out.mono ?_
  rintro e w9 ⟨rfl, hb⟩
  have H : AwH w t w7.heap.size w9.heap.size a b (w9.alloc (.cells (leaseC b) 30)) := by
    have b9 := below_alloc w9 (.cells (leaseC b) 30)
    exact ⟨(T8.out.step hb).step b9, (Fr.ofBelow b9).keep ((Fr.ofBelow hb).keep X8.out (fun e => e)) (fun e => e), heap_alloc_new w9 _⟩
  clear hb T8 X8 FI2 FF
  rw [show tellV (some b) = .tuple #[Lv b, .bool true] from rfl]
  go_wp2_with fail
  generalize w9.alloc (.cells (leaseC b) 30) = V at *
  generalize w7.heap.size = g6 at *
  generalize w9.heap.size = g8 at *
  have SBA := hide (fun (p : Option Go.Addr) (c : Nat) (W : World) (h : LstL p [b, a] W) => (show Calls Tryz.prog 10 #[.slice p 2 c, .slice (some ⟨W.heap.size, 0, none⟩) 2 2] (W.alloc (.cells #[.int .i64 b.kind, .int .u64 (hi b.p : Nat), .int .u64 (lo b.p : Nat), .int .i64 b.n, .int .i64 b.st, .string b.cl, .int .u32 (b.ia : Int), .int .i64 b.un, .int .i64 a.kind, .int .u64 (hi a.p : Nat), .int .u64 (lo a.p : Nat), .int .i64 a.n, .int .i64 a.st, .string a.cl, .int .u32 (a.ia : Int), .int .i64 a.un] 30)) (Gives (.bool true) (W.alloc (.cells #[.int .i64 b.kind, .int .u64 (hi b.p : Nat), .int .u64 (lo b.p : Nat), .int .i64 b.n, .int .i64 b.st, .string b.cl, .int .u32 (b.ia : Int), .int .i64 b.un, .int .i64 a.kind, .int .u64 (hi a.p : Nat), .int .u64 (lo a.p : Nat), .int .i64 a.n, .int .i64 a.st, .string a.cl, .int .u32 (a.ia : Int), .int .i64 a.un] 30))) from same_any p (some ⟨W.heap.size, 0, none⟩) c 2 [b, a] (by unfold maxLen; simp) _ (h.step (below_alloc W _)) (lstL_block (heap_alloc_new W _) rfl)))
  have SAB := hide (fun (p : Option Go.Addr) (c : Nat) (W : World) (h : LstL p [a, b] W) => (show Calls Tryz.prog 10 #[.slice p 2 c, .slice (some ⟨W.heap.size, 0, none⟩) 2 2] (W.alloc (.cells #[.int .i64 a.kind, .int .u64 (hi a.p : Nat), .int .u64 (lo a.p : Nat), .int .i64 a.n, .int .i64 a.st, .string a.cl, .int .u32 (a.ia : Int), .int .i64 a.un, .int .i64 b.kind, .int .u64 (hi b.p : Nat), .int .u64 (lo b.p : Nat), .int .i64 b.n, .int .i64 b.st, .string b.cl, .int .u32 (b.ia : Int), .int .i64 b.un] 30)) (Gives (.bool true) (W.alloc (.cells #[.int .i64 a.kind, .int .u64 (hi a.p : Nat), .int .u64 (lo a.p : Nat), .int .i64 a.n, .int .i64 a.st, .string a.cl, .int .u32 (a.ia : Int), .int .i64 a.un, .int .i64 b.kind, .int .u64 (hi b.p : Nat), .int .u64 (lo b.p : Nat), .int .i64 b.n, .int .i64 b.st, .string b.cl, .int .u32 (b.ia : Int), .int .i64 b.un] 30))) from same_any p (some ⟨W.heap.size, 0, none⟩) c 2 [a, b] (by unfold maxLen; simp) _ (h.step (below_alloc W _)) (lstL_block (heap_alloc_new W _) rfl)))
  have SA := hide (fun (p : Option Go.Addr) (c : Nat) (W : World) (h : LstL p [a] W) => (show Calls Tryz.prog 10 #[.slice p 1 c, .slice (some ⟨W.heap.size, 0, none⟩) 1 1] (W.alloc (.cells #[.int .i64 a.kind, .int .u64 (hi a.p : Nat), .int .u64 (lo a.p : Nat), .int .i64 a.n, .int .i64 a.st, .string a.cl, .int .u32 (a.ia : Int), .int .i64 a.un] 30)) (Gives (.bool true) (W.alloc (.cells #[.int .i64 a.kind, .int .u64 (hi a.p : Nat), .int .u64 (lo a.p : Nat), .int .i64 a.n, .int .i64 a.st, .string a.cl, .int .u32 (a.ia : Int), .int .i64 a.un] 30))) from same_any p (some ⟨W.heap.size, 0, none⟩) c 1 [a] (by unfold maxLen; simp) _ (h.step (below_alloc W _)) (lstL_block (heap_alloc_new W _) rfl)))
  obtain ⟨_, a0, a1, a2, a3, a4, a5, a6, a7, b0, b1, b2, b3, b4, b5, b6, b7⟩ := H.flat
  simp only [List.append]
  go_region_held3 (fun W => AwH w t g6 g8 a b W ∧ W.cell? ⟨g6, 0, none⟩ = some (.int .i64 a.kind) ∧ W.cell? ⟨g6, 1, none⟩ = some (.int .u64 (hi a.p : Nat)) ∧ W.cell? ⟨g6, 2, none⟩ = some (.int .u64 (lo a.p : Nat)) ∧ W.cell? ⟨g6, 3, none⟩ = some (.int .i64 a.n) ∧ W.cell? ⟨g6, 4, none⟩ = some (.int .i64 a.st) ∧ W.cell? ⟨g6, 5, none⟩ = some (.string a.cl) ∧ W.cell? ⟨g6, 6, none⟩ = some (.int .u32 (a.ia : Int)) ∧ W.cell? ⟨g6, 7, none⟩ = some (.int .i64 a.un) ∧ W.cell? ⟨g8, 0, none⟩ = some (.int .i64 b.kind) ∧ W.cell? ⟨g8, 1, none⟩ = some (.int .u64 (hi b.p : Nat)) ∧ W.cell? ⟨g8, 2, none⟩ = some (.int .u64 (lo b.p : Nat)) ∧ W.cell? ⟨g8, 3, none⟩ = some (.int .i64 b.n) ∧ W.cell? ⟨g8, 4, none⟩ = some (.int .i64 b.st) ∧ W.cell? ⟨g8, 5, none⟩ = some (.string b.cl) ∧ W.cell? ⟨g8, 6, none⟩ = some (.int .u32 (b.ia : Int)) ∧ W.cell? ⟨g8, 7, none⟩ = some (.int .i64 b.un))
    (first
      | exact (H.step (below_drew _)).flat
      | exact HC.flat
      | exact (HC.step (below_alloc _ _)).flat)
    (first
      | (go_at_call 14; (first | with_reducible refine (H5.out _).mono ?_ | with_reducible refine (H6.out _).mono ?_); rintro e w2 ⟨rfl, hb⟩; (first | have HC := HC.step hb | have HC := (HC.step (below_alloc _ _)).step hb | have HC := (H.step (below_drew _)).step hb); (try have HL := LstL.step HL hb); clear hb)
      | (go_at_call 18; (first | refine (tdue_any HC.own.2 10).mono ?_ | refine (tdue_any (H.step (below_drew _)).own.2 10).mono ?_); rintro e w2 ⟨R, hp, hs, v, rfl, hr, hb⟩; obtain rfl := HK.out.due hp hs; obtain ⟨p, cp, rfl, HL, _⟩ := hr.lst; (first | have HC := HC.step hb | have HC := (HC.step (below_alloc _ _)).step hb | have HC := (H.step (below_drew _)).step hb); clear hb hr hp hs)
      | (go_at_call 11; (first | refine (all_any HC.own.2).mono ?_ | refine (all_any (H.step (below_drew _)).own.2).mono ?_); rintro e w2 ⟨v, rfl, hr, hb⟩; obtain ⟨p, cp, rfl, HL, _⟩ := hr.lst; (first | have HC := HC.step hb | have HC := (HC.step (below_alloc _ _)).step hb | have HC := (H.step (below_drew _)).step hb); clear hb hr)
      | (go_at_call 19; (first | refine (client_any HC.own.2 ⟨#[97]⟩).mono ?_ | refine (client_any (H.step (below_drew _)).own.2 ⟨#[97]⟩).mono ?_); rintro e w2 ⟨v, rfl, hr, hb⟩; rw [HK.out.cl] at hr; obtain ⟨p, cp, rfl, HL, _⟩ := hr.lst; (first | have HC := HC.step hb | have HC := (HC.step (below_alloc _ _)).step hb | have HC := (H.step (below_drew _)).step hb); clear hb hr)
      | (go_at_call 10; (first | with_reducible refine (SBA.out _ _ _ HL).mono ?_ | with_reducible refine (SAB.out _ _ _ HL).mono ?_ | with_reducible refine (SA.out _ _ _ HL).mono ?_); rintro e w2 ⟨rfl, hb⟩; (first | have HC := HC.step hb | have HC := (HC.step (below_alloc _ _)).step hb | have HC := (H.step (below_drew _)).step hb); clear hb HL)
      | (go_at_call 13; (first | refine (copy_any HC.own.2).mono ?_ | refine (copy_any (H.step (below_drew _)).own.2).mono ?_); rintro e w2 ⟨t2, rfl, hb, hT2⟩; (first | have HC := HC.step hb | have HC := (HC.step (below_alloc _ _)).step hb | have HC := (H.step (below_drew _)).step hb); clear hb)
      | (go_at_call 20; (first | (have HS := (show Calls Tryz.prog 20 #[Pt t] _ (Same (.int .i64 2) _) from size_any HC.own.2); with_reducible refine HS.mono ?_) | (have HS := (show Calls Tryz.prog 20 #[Pt t2] _ (Same (.int .i64 2) _) from size_any hT2); with_reducible refine HS.mono ?_)); rintro e w2 ⟨rfl, rfl⟩; clear HS))
  go_wp2
  go_ret
  exact ⟨rfl, HC.own.1⟩
theorem known : Known hA hB hC hZ :=
  ⟨k1, k2, k3, k4, k5, k6, k7, k8, k9, k10, host_ok 5 (by omega) _ (by decide) _ (by unfold I64; decide), host_ok 6 (by omega) _ (by decide) _ (by unfold I64; decide), host_ok 7 (by omega) _ (by decide) _ (by unfold I64; decide), host_ok 6 (by omega) _ (by decide) _ (by unfold I64; decide)⟩
theorem awake_any (w : World) : Calls Tryz.prog 4 #[] w (Gives (.bool true) w) :=
  awake_of known (fun W => host_any 5 (by omega) _ _ W) (fun W => host_any 6 (by omega) _ _ W) (fun W => host_any 7 (by omega) _ _ W) (fun W => host_any 6 (by omega) _ _ W) w
end Go.Proofs.YtpldkgollhbolaaGreat
