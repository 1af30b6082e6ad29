/-
  The walk of the law TableViews: it returns true. Condition: fewer than 2^63 lists, of changes of their types.
-/
import Derived.Test.YtpldkgollhbolaaTbVp
import Derived.Test.YtpldkgollhbolaaTbRg
import Derived.Deep.DeepCutAuto
import Derived.BigQuiet
namespace Go.Proofs.Ytpldkgollhbolaa
open Go.RowKit Go.Joins Go.Maps

/-- the round's boxes: x, a, b -/
structure VC (V : World) (b o : Nat) (L : List Ls) (X A B : Nat) (kx hx lx nx sx : Int) (cx : ByteArray) (ix ux : Int) (kz hz lz nz sz : Int) (cz : ByteArray) (iz uz : Int) (W : World) : Prop where
  vld : VLd V b o L W
  xx : Vl8 X 0 kx hx lx nx sx cx ix ux W
  aa : Vl8 A 0 kx hx lx nx sx cx ix ux W
  bb : Vl8 B 0 kz hz lz nz sz cz iz uz W
theorem VC.step {V : World} {b o : Nat} {L : List Ls} {X A B : Nat} {kx hx lx nx sx : Int} {cx : ByteArray} {ix ux : Int} {kz hz lz nz sz : Int} {cz : ByteArray} {iz uz : Int} {W W' : World} (h : VC V b o L X A B kx hx lx nx sx cx ix ux kz hz lz nz sz cz iz uz W) (hb : Below W.heap.size W W') : VC V b o L X A B kx hx lx nx sx cx ix ux kz hz lz nz sz cz iz uz W' :=
  ⟨h.vld.step hb, h.xx.step hb, h.aa.step hb, h.bb.step hb⟩
theorem Vl8.z {b : Nat} {k h l n s : Int} {c : ByteArray} {ia u : Int} {W : World} (H : Vl8 b 0 k h l n s c ia u W) : W.cell? ⟨b, 0, none⟩ = some (.int .i64 k) ∧ W.cell? ⟨b, 1, none⟩ = some (.int .u64 h) ∧ W.cell? ⟨b, 2, none⟩ = some (.int .u64 l) ∧
    W.cell? ⟨b, 3, none⟩ = some (.int .i64 n) ∧ W.cell? ⟨b, 4, none⟩ = some (.int .i64 s) ∧ W.cell? ⟨b, 5, none⟩ = some (.string c) ∧ W.cell? ⟨b, 6, none⟩ = some (.int .u32 ia) ∧ W.cell? ⟨b, 7, none⟩ = some (.int .i64 u) := H
theorem due_at {R : List Ls} (h : DueL R) {i k : Nat} {x y : Ls} (hy : R[k]? = some y) (hx : R[i]? = some x) (hk : k < i) : dueC y x < 0 := by
  obtain ⟨h1, rfl⟩ := List.getElem?_eq_some_iff.1 hy
  obtain ⟨h2, rfl⟩ := List.getElem?_eq_some_iff.1 hx
  exact List.pairwise_iff_getElem.1 h k i h1 h2 hk
theorem due_un {x y : Ls} (h : dueC x y < 0) : x.un ≤ y.un := by
  unfold dueC or2 cmpI at h
  by_cases h1 : x.un ≤ y.un
  · exact h1
  · rw [if_neg (show ¬ x.un < y.un by omega), if_pos (show y.un < x.un by omega)] at h
    simp at h

set_option maxRecDepth 100000 in
set_option maxHeartbeats 16000000 in
theorem views_any {ls : List (List Ch)} (ok : ∀ l ∈ ls, okL l) (hm : ls.length ≤ maxLen) {p : Option Go.Addr} {cap : Nat} (now : Int) (w : World) (hr : RwsC p ls w) :
    Calls Try.prog 4 #[.slice p ls.length cap, .int .i64 now] w (Gives (.bool true) w) := by
  have AW := hide (awake_any w)
  have FI := hide (fun W h => filled_any ok hm (cap := cap) W (hr.step h))
  clear ok hr hm
  go_enter Try.func4, Try.ntmps4
  go_wp2_with fail
  refine AW.out.mono ?_
  rintro e w1 ⟨rfl, hb1⟩
  have F2 := hide (FI.out w1 hb1)
  have B1 := hide hb1
  clear FI hb1 AW
  go_wp2_with fail
  refine F2.out.mono ?_
  rintro e w2 ⟨t, rfl, hT⟩
  have T2 := hide hT
  have B2 := hide (chain B1.out hT.1)
  have AL := hide (all_any hT.2)
  clear hT B1 F2
  generalize fillL [] (ls.take 300) = L at *
  go_wp2_with fail
  refine AL.out.mono ?_
  rintro e w3 ⟨v, rfl, hr, hb⟩
  obtain ⟨q, c, rfl, hl, _⟩ := hr.lst
  have HL := hide hl
  have B3 := hide (chain B2.out hb)
  have T3 := hide (T2.out.2.below hb)
  generalize New w1 w2 = O at T3
  have H24 := T3.out.tabL.good.size
  have hlen : (L.length : Int) ≤ 1024 := by omega
  have DLE := hide (fun i => dueN_le (L := L) now i)
  have DEND := hide (show dueN L now L.length = (L.filter (dueB now)).length by unfold dueN; rw [List.take_length])
  have LEND := hide (show nextL (L.take L.length) = nextL L by rw [List.take_length])
  have LZ := hide (show nextL (L.take 0) = 0 from rfl)
  obtain ⟨dn, hdn⟩ : ∃ dn : Nat → Nat, dueN L now = dn := ⟨_, rfl⟩
  obtain ⟨lsn, hls⟩ : ∃ lsn : Nat → Int, (fun i => nextL (L.take i)) = lsn := ⟨_, rfl⟩
  have HDN := hide hdn
  have HLS := hide (show ∀ i, nextL (L.take i) = lsn i from fun i => congrFun hls i)
  have D0 := hide (show dn 0 = 0 by rw [← hdn]; rfl)
  have L0 := hide (show lsn 0 = 0 by rw [← hls]; rfl)
  clear hdn hls hr hl hb B2 AL T2
  go_wp2_with fail
  go_loopw [7, 8, 9] (fun d l ii wr => ∃ i : Nat, i ≤ L.length ∧ d = .int .i64 (dn i : Nat) ∧ l = .int .i64 (lsn i) ∧ ii = .int .i64 (i : Nat) ∧ Hid (Below w3.heap.size w3 wr)) (fun _ _ ii => fun _ => L.length - (intOf ii).toNat)
  case atStart => exact ⟨0, Nat.zero_le _, by rw [D0.out]; rfl, by rw [L0.out], rfl, hide (Below.refl _ _)⟩
  case round =>
    obtain ⟨i, hil, rfl, rfl, rfl, HB⟩ := hrel
    have hi0 : (0 : Int) ≤ (i : Int) := by omega
    by_cases hlt : i < L.length
    · obtain ⟨x, hxx⟩ : ∃ x, L[i]? = some x := ⟨_, List.getElem?_eq_getElem hlt⟩
      have hlt2 : (i : Int) < (L.length : Int) := by omega
      obtain ⟨b, o, rfl, hat⟩ := HL.out i x hxx
      obtain ⟨kx, hx, lx, nx, sx, cx, ix, ux, RX, RM, m, cnt, F⟩ := v_facts (b := b) (o := o) (now := now) T3.out hxx
      have HV0 : Hid (VLd w3 b o L wr) := hide ((VLd.mk HL.out).step HB.out)
      obtain ⟨r0, r1, r2, r3, r4, r5, r6, r7⟩ := F.out.cells _ HV0.out
      have B5 := hide (chain HB.out (below_alloc wr (.cells #[.int .i64 kx, .int .u64 hx, .int .u64 lx, .int .i64 nx, .int .i64 sx, .string cx, .int .u32 ix, .int .i64 ux] 36)))
      have V5 := hide (HV0.out.step (below_alloc wr (.cells #[.int .i64 kx, .int .u64 hx, .int .u64 lx, .int .i64 nx, .int .i64 sx, .string cx, .int .u32 ix, .int .i64 ux] 36)))
      have X5 := hide (Vl8.new wr kx hx lx nx sx cx ix ux 36)
      clear hat hxx x HB HV0
      go_wp2_with fail
      refine (F.out.find _ B5.out).mono ?_
      rintro e w5 ⟨rfl, hb5⟩
      have V6 := hide (V5.out.step hb5)
      have X6 := X5.out.step hb5
      clear r0 r1 r2 r3 r4 r5 r6 r7 B5 V5 X5 hb5
      generalize wr.heap.size = X at X6 ⊢
      have lx5 := X6.lt
      have n5 : ¬ X = w5.heap.size := by omega
      have n6 : ¬ w5.heap.size = X := by omega
      have HX6 := hide X6
      obtain ⟨x0, x1, x2, x3, x4, x5, x6, x7⟩ := X6.z
      have B7 := hide (V6.out.step (below_alloc w5 (.cells #[.int .i64 kx, .int .u64 hx, .int .u64 lx, .int .i64 nx, .int .i64 sx, .string cx, .int .u32 ix, .int .i64 ux] 36)))
      have X7 := hide (HX6.out.step (below_alloc w5 (.cells #[.int .i64 kx, .int .u64 hx, .int .u64 lx, .int .i64 nx, .int .i64 sx, .string cx, .int .u32 ix, .int .i64 ux] 36)))
      have A7 := hide (Vl8.new w5 kx hx lx nx sx cx ix ux 36)
      obtain ⟨kz, hz, lz, nz, sz, cz, iz, uz, zb, OF, OFE⟩ := F.out.of
      have HOF := hide OF
      have HOFE := hide OFE
      clear X6 OF OFE V6
      go_wp2_with fail
      refine (HOF.out _ B7.out.1).mono ?_
      rintro e w6 ⟨rfl, hb6⟩
      have V8 := hide ((B7.out.step hb6).step (below_alloc w6 (.cells #[.int .i64 kz, .int .u64 hz, .int .u64 lz, .int .i64 nz, .int .i64 sz, .string cz, .int .u32 iz, .int .i64 uz] 36)))
      have X8 := hide ((X7.out.step hb6).step (below_alloc w6 (.cells #[.int .i64 kz, .int .u64 hz, .int .u64 lz, .int .i64 nz, .int .i64 sz, .string cz, .int .u32 iz, .int .i64 uz] 36)))
      have A8 := hide ((A7.out.step hb6).step (below_alloc w6 (.cells #[.int .i64 kz, .int .u64 hz, .int .u64 lz, .int .i64 nz, .int .i64 sz, .string cz, .int .u32 iz, .int .i64 uz] 36)))
      have B8 := hide (Vl8.new w6 kz hz lz nz sz cz iz uz 36)
      clear x0 x1 x2 x3 x4 x5 x6 x7 lx5 n5 n6 HX6 B7 X7 A7 hb6 HOF
      generalize w5.heap.size = A at A8 ⊢
      go_upto_region 13 with fail
      have HV : Hid (VC w3 b o L X A w6.heap.size kx hx lx nx sx cx ix ux kz hz lz nz sz cz iz uz (w6.alloc (.cells #[.int .i64 kz, .int .u64 hz, .int .u64 lz, .int .i64 nz, .int .i64 sz, .string cz, .int .u32 iz, .int .i64 uz] 36))) := hide ⟨V8.out, X8.out, A8.out, B8.out⟩
      clear V8 X8 A8 B8
      generalize w6.alloc (.cells #[.int .i64 kz, .int .u64 hz, .int .u64 lz, .int .i64 nz, .int .i64 sz, .string cz, .int .u32 iz, .int .i64 uz] 36) = w8 at HV ⊢
      generalize w6.heap.size = B at HV ⊢
      go_cut [90] (fun c wx => c = .bool false ∧ VC w3 b o L X A B kx hx lx nx sx cx ix ux kz hz lz nz sz cz iz uz wx)
      case first =>
        have SELF := F.out.self
        by_cases hs : sx = 1
        · have E := HOFE.out hs
          have HV2 : Hid (VC w3 b o L X A B kx hx lx nx sx cx ix ux kx hx lx nx sx cx ix ux w8) := hide (by obtain ⟨_, rfl, rfl, rfl, rfl, rfl, rfl, rfl, rfl⟩ := E; exact HV.out)
          have CB : Hid (∀ W, VC w3 b o L X A B kx hx lx nx sx cx ix ux kx hx lx nx sx cx ix ux W → VC w3 b o L X A B kx hx lx nx sx cx ix ux kz hz lz nz sz cz iz uz W) := hide (by obtain ⟨_, rfl, rfl, rfl, rfl, rfl, rfl, rfl, rfl⟩ := E; exact fun _ h => h)
          have hzb := E.1
          have h1 : (sx == 1) = true := by rw [beq_iff_eq]; exact hs
          clear E HOFE HV hs
          subst hzb
          refine wp_region_rel (VC w3 b o L X A B kx hx lx nx sx cx ix ux kx hx lx nx sx cx ix ux) [some 58, some 59, some 60, some 61, some 62, some 63, some 64, some 65, some 66, some 67, some 68, some 69, some 70, some 71, some 72, some 73, some 74, some 75, some 76, some 77, some 78, some 79, some 80, some 81, some 82, some 83, some 84, some 85, some 86, some 87, some 88, some 89, some 90] [fun yy _ => yy = .bool true, fun yy _ => yy = .bool false, fun yy _ => yy = .bool false, fun yy _ => yy = .agg #[.int .i64 kx, .int .u64 hx, .int .u64 lx, .int .i64 nx, .int .i64 sx, .string cx, .int .u32 ix, .int .i64 ux], fun yy _ => yy = .agg #[.int .i64 kx, .int .u64 hx, .int .u64 lx, .int .i64 nx, .int .i64 sx, .string cx, .int .u32 ix, .int .i64 ux], fun yy _ => yy = .bool false, fun yy _ => yy = .bool false, fun yy _ => yy = .bool false, fun yy _ => yy = .pointer (some ⟨X, 4, none⟩), fun yy _ => yy = .int .i64 sx, fun yy _ => yy = .bool true, fun yy _ => yy = .bool true, fun yy _ => yy = .bool true, fun yy _ => yy = .bool false, fun yy _ => yy = .bool false, fun yy _ => yy = .agg #[.int .i64 kx, .int .u64 hx, .int .u64 lx, .int .i64 nx, .int .i64 sx, .string cx, .int .u32 ix, .int .i64 ux], fun yy _ => yy = .agg #[.int .i64 kx, .int .u64 hx, .int .u64 lx, .int .i64 nx, .int .i64 sx, .string cx, .int .u32 ix, .int .i64 ux], fun yy _ => yy = .bool false, fun yy _ => yy = .bool false, fun yy _ => yy = .bool false, fun yy _ => yy = .bool false, fun yy _ => yy = .bool false, fun yy _ => yy = Pt t, fun yy _ => yy = .pointer (some ⟨X, 0, none⟩), fun yy _ => yy = .int .i64 kx, fun yy _ => yy = .pointer (some ⟨X, 1, none⟩), fun yy _ => yy = .agg #[.int .u64 hx, .int .u64 lx, .int .i64 nx], fun yy W => ∃ p c, yy = .slice p 1 c ∧ RX p W, fun yy _ => yy = .agg #[.int .i64 kx, .int .u64 hx, .int .u64 lx, .int .i64 nx, .int .i64 sx, .string cx, .int .u32 ix, .int .i64 ux], fun yy W => ∃ g, yy = .slice (some ⟨g, 0, none⟩) 1 1 ∧ Vl8 g 0 kx hx lx nx sx cx ix ux W, fun yy _ => yy = .bool true, fun yy _ => yy = .bool false, fun yy _ => yy = .bool false] 184 (by kernel_rfl) (by kernel_rfl) rfl rfl (HV2.out.step (below_drew _)) ?_ ?_
          · refine ⟨⟨fun _ _ _ h _ => h, fun a' W K hC hd hf hK => ?_⟩, ⟨fun _ _ _ h _ => h, fun a' W K hC hd hf hK => ?_⟩, ⟨fun _ _ _ h _ => h, fun a' W K hC hd hf hK => ?_⟩, ⟨fun _ _ _ h _ => h, fun a' W K hC hd hf hK => ?_⟩, ⟨fun _ _ _ h _ => h, fun a' W K hC hd hf hK => ?_⟩, ⟨fun _ _ _ h _ => h, fun a' W K hC hd hf hK => ?_⟩, ⟨fun _ _ _ h _ => h, fun a' W K hC hd hf hK => ?_⟩, ⟨fun _ _ _ h _ => h, fun a' W K hC hd hf hK => ?_⟩, ⟨fun _ _ _ h _ => h, fun a' W K hC hd hf hK => ?_⟩, ⟨fun _ _ _ h _ => h, fun a' W K hC hd hf hK => ?_⟩, ⟨fun _ _ _ h _ => h, fun a' W K hC hd hf hK => ?_⟩, ⟨fun _ _ _ h _ => h, fun a' W K hC hd hf hK => ?_⟩, ⟨fun _ _ _ h _ => h, fun a' W K hC hd hf hK => ?_⟩, ⟨fun _ _ _ h _ => h, fun a' W K hC hd hf hK => ?_⟩, ⟨fun _ _ _ h _ => h, fun a' W K hC hd hf hK => ?_⟩, ⟨fun _ _ _ h _ => h, fun a' W K hC hd hf hK => ?_⟩, ⟨fun _ _ _ h _ => h, fun a' W K hC hd hf hK => ?_⟩, ⟨fun _ _ _ h _ => h, fun a' W K hC hd hf hK => ?_⟩, ⟨fun _ _ _ h _ => h, fun a' W K hC hd hf hK => ?_⟩, ⟨fun _ _ _ h _ => h, fun a' W K hC hd hf hK => ?_⟩, ⟨fun _ _ _ h _ => h, fun a' W K hC hd hf hK => ?_⟩, ⟨fun _ _ _ h _ => h, fun a' W K hC hd hf hK => ?_⟩, ⟨fun _ _ _ h _ => h, fun a' W K hC hd hf hK => ?_⟩, ⟨fun _ _ _ h _ => h, fun a' W K hC hd hf hK => ?_⟩, ⟨fun _ _ _ h _ => h, fun a' W K hC hd hf hK => ?_⟩, ⟨fun _ _ _ h _ => h, fun a' W K hC hd hf hK => ?_⟩, ⟨fun _ _ _ h _ => h, fun a' W K hC hd hf hK => ?_⟩, ⟨fun _ _ _ ⟨p, c, h0, h1⟩ hb => ⟨p, c, h0, F.out.rxs p _ _ h1 hb⟩, fun a' W K hC hd hf hK => ?_⟩, ⟨fun _ _ _ h _ => h, fun a' W K hC hd hf hK => ?_⟩, ⟨fun _ _ _ ⟨g, h0, h1⟩ hb => ⟨g, h0, h1.step hb⟩, fun a' W K hC hd hf hK => ?_⟩, ⟨fun _ _ _ h _ => h, fun a' W K hC hd hf hK => ?_⟩, ⟨fun _ _ _ h _ => h, fun a' W K hC hd hf hK => ?_⟩, ⟨fun _ _ _ h _ => h, fun a' W K hC hd hf hK => ?_⟩, trivial⟩
            · refine op_plain rfl ?_
              have f12 : a'.tmps[12]?.getD undef = .bool true := (hf.out 12 (by kernel_rfl)).trans (by simp)
              go_simp
              exact hK.out _ _ hC (Below.refl _ _) rfl
            · refine op_plain rfl ?_
              have d58 : a'.tmps[58]?.getD undef = .bool true := hd.out 0 58 (by kernel_rfl) rfl
              go_simp
              exact hK.out _ _ hC (Below.refl _ _) rfl
            · refine op_plain rfl ?_
              have d59 : a'.tmps[59]?.getD undef = .bool false := hd.out 1 59 (by kernel_rfl) rfl
              go_simp
              exact hK.out _ _ hC (Below.refl _ _) rfl
            · have gd : a'.tmps[60]?.getD undef = .bool false := hd.out 2 60 (by kernel_rfl) rfl
              refine op_yes rfl (by kernel_rfl) gd ?_
              clear gd
              have f11 : a'.tmps[11]?.getD undef = .pointer (some ⟨A, 0, none⟩) := (hf.out 11 (by kernel_rfl)).trans (by simp)
              obtain ⟨x0, x1, x2, x3, x4, x5, x6, x7⟩ := hC.xx.z
              obtain ⟨a0, a1, a2, a3, a4, a5, a6, a7⟩ := hC.aa.z
              obtain ⟨z0, z1, z2, z3, z4, z5, z6, z7⟩ := hC.bb.z
              go_simp
              exact hK.out _ _ hC (Below.refl _ _) rfl
            · have gd : a'.tmps[60]?.getD undef = .bool false := hd.out 2 60 (by kernel_rfl) rfl
              refine op_yes rfl (by kernel_rfl) gd ?_
              clear gd
              have f10 : a'.tmps[10]?.getD undef = .pointer (some ⟨X, 0, none⟩) := (hf.out 10 (by kernel_rfl)).trans (by simp)
              obtain ⟨x0, x1, x2, x3, x4, x5, x6, x7⟩ := hC.xx.z
              obtain ⟨a0, a1, a2, a3, a4, a5, a6, a7⟩ := hC.aa.z
              obtain ⟨z0, z1, z2, z3, z4, z5, z6, z7⟩ := hC.bb.z
              go_simp
              exact hK.out _ _ hC (Below.refl _ _) rfl
            · have gd : a'.tmps[60]?.getD undef = .bool false := hd.out 2 60 (by kernel_rfl) rfl
              refine op_yes rfl (by kernel_rfl) gd ?_
              clear gd
              have d61 : a'.tmps[61]?.getD undef = .agg #[.int .i64 kx, .int .u64 hx, .int .u64 lx, .int .i64 nx, .int .i64 sx, .string cx, .int .u32 ix, .int .i64 ux] := hd.out 3 61 (by kernel_rfl) rfl
              have d62 : a'.tmps[62]?.getD undef = .agg #[.int .i64 kx, .int .u64 hx, .int .u64 lx, .int .i64 nx, .int .i64 sx, .string cx, .int .u32 ix, .int .i64 ux] := hd.out 4 62 (by kernel_rfl) rfl
              go_simp
              exact hK.out _ _ hC (Below.refl _ _) rfl
            · refine op_plain rfl ?_
              have d60 : a'.tmps[60]?.getD undef = .bool false := hd.out 2 60 (by kernel_rfl) rfl
              have d63 : a'.tmps[63]?.getD undef = .bool false := hd.out 5 63 (by kernel_rfl) rfl
              go_simp
              exact hK.out _ _ hC (Below.refl _ _) rfl
            · refine op_plain rfl ?_
              have d64 : a'.tmps[64]?.getD undef = .bool false := hd.out 6 64 (by kernel_rfl) rfl
              go_simp
              exact hK.out _ _ hC (Below.refl _ _) rfl
            · have gd : a'.tmps[65]?.getD undef = .bool false := hd.out 7 65 (by kernel_rfl) rfl
              refine op_yes rfl (by kernel_rfl) gd ?_
              clear gd
              have f10 : a'.tmps[10]?.getD undef = .pointer (some ⟨X, 0, none⟩) := (hf.out 10 (by kernel_rfl)).trans (by simp)
              go_simp
              exact hK.out _ _ hC (Below.refl _ _) rfl
            · have gd : a'.tmps[65]?.getD undef = .bool false := hd.out 7 65 (by kernel_rfl) rfl
              refine op_yes rfl (by kernel_rfl) gd ?_
              clear gd
              have d66 : a'.tmps[66]?.getD undef = .pointer (some ⟨X, 4, none⟩) := hd.out 8 66 (by kernel_rfl) rfl
              obtain ⟨x0, x1, x2, x3, x4, x5, x6, x7⟩ := hC.xx.z
              obtain ⟨a0, a1, a2, a3, a4, a5, a6, a7⟩ := hC.aa.z
              obtain ⟨z0, z1, z2, z3, z4, z5, z6, z7⟩ := hC.bb.z
              go_simp
              exact hK.out _ _ hC (Below.refl _ _) rfl
            · have gd : a'.tmps[65]?.getD undef = .bool false := hd.out 7 65 (by kernel_rfl) rfl
              refine op_yes rfl (by kernel_rfl) gd ?_
              clear gd
              have d67 : a'.tmps[67]?.getD undef = .int .i64 sx := hd.out 9 67 (by kernel_rfl) rfl
              go_simp
              exact hK.out _ _ hC (Below.refl _ _) rfl
            · have gd : a'.tmps[65]?.getD undef = .bool false := hd.out 7 65 (by kernel_rfl) rfl
              refine op_yes rfl (by kernel_rfl) gd ?_
              clear gd
              have d68 : a'.tmps[68]?.getD undef = .bool true := hd.out 10 68 (by kernel_rfl) rfl
              go_simp
              exact hK.out _ _ hC (Below.refl _ _) rfl
            · have gd : a'.tmps[69]?.getD undef = .bool true := hd.out 11 69 (by kernel_rfl) rfl
              refine op_yes rfl (by kernel_rfl) gd ?_
              clear gd
              have f14 : a'.tmps[14]?.getD undef = .bool true := (hf.out 14 (by kernel_rfl)).trans (by simp)
              go_simp
              exact hK.out _ _ hC (Below.refl _ _) rfl
            · have gd : a'.tmps[69]?.getD undef = .bool true := hd.out 11 69 (by kernel_rfl) rfl
              refine op_yes rfl (by kernel_rfl) gd ?_
              clear gd
              have d70 : a'.tmps[70]?.getD undef = .bool true := hd.out 12 70 (by kernel_rfl) rfl
              go_simp
              exact hK.out _ _ hC (Below.refl _ _) rfl
            · have gd : a'.tmps[69]?.getD undef = .bool true := hd.out 11 69 (by kernel_rfl) rfl
              refine op_yes rfl (by kernel_rfl) gd ?_
              clear gd
              have d71 : a'.tmps[71]?.getD undef = .bool false := hd.out 13 71 (by kernel_rfl) rfl
              go_simp
              exact hK.out _ _ hC (Below.refl _ _) rfl
            · have gd : a'.tmps[72]?.getD undef = .bool false := hd.out 14 72 (by kernel_rfl) rfl
              refine op_yes rfl (by kernel_rfl) gd ?_
              clear gd
              have f13 : a'.tmps[13]?.getD undef = .pointer (some ⟨B, 0, none⟩) := (hf.out 13 (by kernel_rfl)).trans (by simp)
              obtain ⟨x0, x1, x2, x3, x4, x5, x6, x7⟩ := hC.xx.z
              obtain ⟨a0, a1, a2, a3, a4, a5, a6, a7⟩ := hC.aa.z
              obtain ⟨z0, z1, z2, z3, z4, z5, z6, z7⟩ := hC.bb.z
              go_simp
              exact hK.out _ _ hC (Below.refl _ _) rfl
            · have gd : a'.tmps[72]?.getD undef = .bool false := hd.out 14 72 (by kernel_rfl) rfl
              refine op_yes rfl (by kernel_rfl) gd ?_
              clear gd
              have f10 : a'.tmps[10]?.getD undef = .pointer (some ⟨X, 0, none⟩) := (hf.out 10 (by kernel_rfl)).trans (by simp)
              obtain ⟨x0, x1, x2, x3, x4, x5, x6, x7⟩ := hC.xx.z
              obtain ⟨a0, a1, a2, a3, a4, a5, a6, a7⟩ := hC.aa.z
              obtain ⟨z0, z1, z2, z3, z4, z5, z6, z7⟩ := hC.bb.z
              go_simp
              exact hK.out _ _ hC (Below.refl _ _) rfl
            · have gd : a'.tmps[72]?.getD undef = .bool false := hd.out 14 72 (by kernel_rfl) rfl
              refine op_yes rfl (by kernel_rfl) gd ?_
              clear gd
              have d73 : a'.tmps[73]?.getD undef = .agg #[.int .i64 kx, .int .u64 hx, .int .u64 lx, .int .i64 nx, .int .i64 sx, .string cx, .int .u32 ix, .int .i64 ux] := hd.out 15 73 (by kernel_rfl) rfl
              have d74 : a'.tmps[74]?.getD undef = .agg #[.int .i64 kx, .int .u64 hx, .int .u64 lx, .int .i64 nx, .int .i64 sx, .string cx, .int .u32 ix, .int .i64 ux] := hd.out 16 74 (by kernel_rfl) rfl
              go_simp
              exact hK.out _ _ hC (Below.refl _ _) rfl
            · have gd : a'.tmps[69]?.getD undef = .bool true := hd.out 11 69 (by kernel_rfl) rfl
              refine op_yes rfl (by kernel_rfl) gd ?_
              clear gd
              have d72 : a'.tmps[72]?.getD undef = .bool false := hd.out 14 72 (by kernel_rfl) rfl
              have d75 : a'.tmps[75]?.getD undef = .bool false := hd.out 17 75 (by kernel_rfl) rfl
              go_simp
              exact hK.out _ _ hC (Below.refl _ _) rfl
            · have gd : a'.tmps[65]?.getD undef = .bool false := hd.out 7 65 (by kernel_rfl) rfl
              refine op_yes rfl (by kernel_rfl) gd ?_
              clear gd
              have d69 : a'.tmps[69]?.getD undef = .bool true := hd.out 11 69 (by kernel_rfl) rfl
              have d76 : a'.tmps[76]?.getD undef = .bool false := hd.out 18 76 (by kernel_rfl) rfl
              go_simp
              exact hK.out _ _ hC (Below.refl _ _) rfl
            · refine op_plain rfl ?_
              have d65 : a'.tmps[65]?.getD undef = .bool false := hd.out 7 65 (by kernel_rfl) rfl
              have d77 : a'.tmps[77]?.getD undef = .bool false := hd.out 19 77 (by kernel_rfl) rfl
              go_simp
              exact hK.out _ _ hC (Below.refl _ _) rfl
            · refine op_plain rfl ?_
              have d78 : a'.tmps[78]?.getD undef = .bool false := hd.out 20 78 (by kernel_rfl) rfl
              go_simp
              exact hK.out _ _ hC (Below.refl _ _) rfl
            · have gd : a'.tmps[79]?.getD undef = .bool false := hd.out 21 79 (by kernel_rfl) rfl
              refine op_yes rfl (by kernel_rfl) gd ?_
              clear gd
              have f5 : a'.tmps[5]?.getD undef = Pt t := (hf.out 5 (by kernel_rfl)).trans (by simp)
              go_simp
              exact hK.out _ _ hC (Below.refl _ _) rfl
            · have gd : a'.tmps[79]?.getD undef = .bool false := hd.out 21 79 (by kernel_rfl) rfl
              refine op_yes rfl (by kernel_rfl) gd ?_
              clear gd
              have f10 : a'.tmps[10]?.getD undef = .pointer (some ⟨X, 0, none⟩) := (hf.out 10 (by kernel_rfl)).trans (by simp)
              go_simp
              exact hK.out _ _ hC (Below.refl _ _) rfl
            · have gd : a'.tmps[79]?.getD undef = .bool false := hd.out 21 79 (by kernel_rfl) rfl
              refine op_yes rfl (by kernel_rfl) gd ?_
              clear gd
              have d81 : a'.tmps[81]?.getD undef = .pointer (some ⟨X, 0, none⟩) := hd.out 23 81 (by kernel_rfl) rfl
              obtain ⟨x0, x1, x2, x3, x4, x5, x6, x7⟩ := hC.xx.z
              obtain ⟨a0, a1, a2, a3, a4, a5, a6, a7⟩ := hC.aa.z
              obtain ⟨z0, z1, z2, z3, z4, z5, z6, z7⟩ := hC.bb.z
              go_simp
              exact hK.out _ _ hC (Below.refl _ _) rfl
            · have gd : a'.tmps[79]?.getD undef = .bool false := hd.out 21 79 (by kernel_rfl) rfl
              refine op_yes rfl (by kernel_rfl) gd ?_
              clear gd
              have f10 : a'.tmps[10]?.getD undef = .pointer (some ⟨X, 0, none⟩) := (hf.out 10 (by kernel_rfl)).trans (by simp)
              go_simp
              exact hK.out _ _ hC (Below.refl _ _) rfl
            · have gd : a'.tmps[79]?.getD undef = .bool false := hd.out 21 79 (by kernel_rfl) rfl
              refine op_yes rfl (by kernel_rfl) gd ?_
              clear gd
              have d83 : a'.tmps[83]?.getD undef = .pointer (some ⟨X, 1, none⟩) := hd.out 25 83 (by kernel_rfl) rfl
              obtain ⟨x0, x1, x2, x3, x4, x5, x6, x7⟩ := hC.xx.z
              obtain ⟨a0, a1, a2, a3, a4, a5, a6, a7⟩ := hC.aa.z
              obtain ⟨z0, z1, z2, z3, z4, z5, z6, z7⟩ := hC.bb.z
              go_simp
              exact hK.out _ _ hC (Below.refl _ _) rfl
            · have gd : a'.tmps[79]?.getD undef = .bool false := hd.out 21 79 (by kernel_rfl) rfl
              refine op_yes rfl (by kernel_rfl) gd ?_
              clear gd
              have d80 : a'.tmps[80]?.getD undef = Pt t := hd.out 22 80 (by kernel_rfl) rfl
              have d82 : a'.tmps[82]?.getD undef = .int .i64 kx := hd.out 24 82 (by kernel_rfl) rfl
              have d84 : a'.tmps[84]?.getD undef = .agg #[.int .u64 hx, .int .u64 lx, .int .i64 nx] := hd.out 26 84 (by kernel_rfl) rfl
              go_simp; go_at_call 16; refine (F.out.meets _ hC.vld.1).mono ?_; rintro e w2 ⟨p, c, rfl, hr, hb2⟩; exact hK.out _ _ (hC.step hb2) hb2 ⟨p, c, rfl, hr⟩
            · have gd : a'.tmps[79]?.getD undef = .bool false := hd.out 21 79 (by kernel_rfl) rfl
              refine op_yes rfl (by kernel_rfl) gd ?_
              clear gd
              have f10 : a'.tmps[10]?.getD undef = .pointer (some ⟨X, 0, none⟩) := (hf.out 10 (by kernel_rfl)).trans (by simp)
              obtain ⟨x0, x1, x2, x3, x4, x5, x6, x7⟩ := hC.xx.z
              obtain ⟨a0, a1, a2, a3, a4, a5, a6, a7⟩ := hC.aa.z
              obtain ⟨z0, z1, z2, z3, z4, z5, z6, z7⟩ := hC.bb.z
              go_simp
              exact hK.out _ _ hC (Below.refl _ _) rfl
            · have gd : a'.tmps[79]?.getD undef = .bool false := hd.out 21 79 (by kernel_rfl) rfl
              refine op_yes rfl (by kernel_rfl) gd ?_
              clear gd
              have d86 : a'.tmps[86]?.getD undef = .agg #[.int .i64 kx, .int .u64 hx, .int .u64 lx, .int .i64 nx, .int .i64 sx, .string cx, .int .u32 ix, .int .i64 ux] := hd.out 28 86 (by kernel_rfl) rfl
              go_simp
              exact hK.out _ _ (hC.step (below_alloc _ _)) (below_alloc _ _) ⟨_, rfl, Vl8.new W kx hx lx nx sx cx ix ux _⟩
            · have gd : a'.tmps[79]?.getD undef = .bool false := hd.out 21 79 (by kernel_rfl) rfl
              refine op_yes rfl (by kernel_rfl) gd ?_
              clear gd
              have d85 := hd.out 27 85 (by kernel_rfl) rfl
              have d87 := hd.out 29 87 (by kernel_rfl) rfl
              obtain ⟨p85, c85, e85, r85⟩ := d85
              obtain ⟨g87, e87, r87⟩ := d87
              go_simp; go_at_call 15; refine (F.out.same _ p85 c85 g87 r85 r87).mono ?_; rintro e w2 ⟨rfl, hb2⟩; exact hK.out _ _ (hC.step hb2) hb2 rfl
            · have gd : a'.tmps[79]?.getD undef = .bool false := hd.out 21 79 (by kernel_rfl) rfl
              refine op_yes rfl (by kernel_rfl) gd ?_
              clear gd
              have d88 : a'.tmps[88]?.getD undef = .bool true := hd.out 30 88 (by kernel_rfl) rfl
              go_simp
              exact hK.out _ _ hC (Below.refl _ _) rfl
            · refine op_plain rfl ?_
              have d79 : a'.tmps[79]?.getD undef = .bool false := hd.out 21 79 (by kernel_rfl) rfl
              have d89 : a'.tmps[89]?.getD undef = .bool false := hd.out 31 89 (by kernel_rfl) rfl
              go_simp
              exact hK.out _ _ hC (Below.refl _ _) rfl
          · intro vs W hC hR
            have q0 : vs 0 = .bool true := hR.out 0 (by decide)
            have q1 : vs 1 = .bool false := hR.out 1 (by decide)
            have q2 : vs 2 = .bool false := hR.out 2 (by decide)
            have q3 : vs 3 = .agg #[.int .i64 kx, .int .u64 hx, .int .u64 lx, .int .i64 nx, .int .i64 sx, .string cx, .int .u32 ix, .int .i64 ux] := hR.out 3 (by decide)
            have q4 : vs 4 = .agg #[.int .i64 kx, .int .u64 hx, .int .u64 lx, .int .i64 nx, .int .i64 sx, .string cx, .int .u32 ix, .int .i64 ux] := hR.out 4 (by decide)
            have q5 : vs 5 = .bool false := hR.out 5 (by decide)
            have q6 : vs 6 = .bool false := hR.out 6 (by decide)
            have q7 : vs 7 = .bool false := hR.out 7 (by decide)
            have q8 : vs 8 = .pointer (some ⟨X, 4, none⟩) := hR.out 8 (by decide)
            have q9 : vs 9 = .int .i64 sx := hR.out 9 (by decide)
            have q10 : vs 10 = .bool true := hR.out 10 (by decide)
            have q11 : vs 11 = .bool true := hR.out 11 (by decide)
            have q12 : vs 12 = .bool true := hR.out 12 (by decide)
            have q13 : vs 13 = .bool false := hR.out 13 (by decide)
            have q14 : vs 14 = .bool false := hR.out 14 (by decide)
            have q15 : vs 15 = .agg #[.int .i64 kx, .int .u64 hx, .int .u64 lx, .int .i64 nx, .int .i64 sx, .string cx, .int .u32 ix, .int .i64 ux] := hR.out 15 (by decide)
            have q16 : vs 16 = .agg #[.int .i64 kx, .int .u64 hx, .int .u64 lx, .int .i64 nx, .int .i64 sx, .string cx, .int .u32 ix, .int .i64 ux] := hR.out 16 (by decide)
            have q17 : vs 17 = .bool false := hR.out 17 (by decide)
            have q18 : vs 18 = .bool false := hR.out 18 (by decide)
            have q19 : vs 19 = .bool false := hR.out 19 (by decide)
            have q20 : vs 20 = .bool false := hR.out 20 (by decide)
            have q21 : vs 21 = .bool false := hR.out 21 (by decide)
            have q22 : vs 22 = Pt t := hR.out 22 (by decide)
            have q23 : vs 23 = .pointer (some ⟨X, 0, none⟩) := hR.out 23 (by decide)
            have q24 : vs 24 = .int .i64 kx := hR.out 24 (by decide)
            have q25 : vs 25 = .pointer (some ⟨X, 1, none⟩) := hR.out 25 (by decide)
            have q26 : vs 26 = .agg #[.int .u64 hx, .int .u64 lx, .int .i64 nx] := hR.out 26 (by decide)
            generalize hq27 : vs 27 = q27
            have q28 : vs 28 = .agg #[.int .i64 kx, .int .u64 hx, .int .u64 lx, .int .i64 nx, .int .i64 sx, .string cx, .int .u32 ix, .int .i64 ux] := hR.out 28 (by decide)
            generalize hq29 : vs 29 = q29
            have q30 : vs 30 = .bool true := hR.out 30 (by decide)
            have q31 : vs 31 = .bool false := hR.out 31 (by decide)
            have q32 : vs 32 = .bool false := hR.out 32 (by decide)
            simp only [fillF, Act.put, List.setIfInBounds_toArray, List.set_cons_zero, List.set_cons_succ, Nat.reduceAdd, q0, q1, q2, q3, q4, q5, q6, q7, q8, q9, q10, q11, q12, q13, q14, q15, q16, q17, q18, q19, q20, q21, q22, q23, q24, q25, q26, hq27, q28, hq29, q30, q31, q32]
            clear hR q0 q1 q2 q3 q4 q5 q6 q7 q8 q9 q10 q11 q12 q13 q14 q15 q16 q17 q18 q19 q20 q21 q22 q23 q24 q25 q26 hq27 q28 hq29 q30 q31 q32
            go_wp2_with fail
            go_meet
            exact ⟨rfl, CB.out _ hC⟩
        · have h1 : (sx == 1) = false := by rw [beq_eq_false_iff_ne]; exact hs
          have HV2 := hide HV.out
          clear HOFE HV hs
          refine wp_region_rel (VC w3 b o L X A B kx hx lx nx sx cx ix ux kz hz lz nz sz cz iz uz) [some 58, some 59, some 60, some 61, some 62, some 63, some 64, some 65, some 66, some 67, some 68, some 69, some 70, some 71, some 72, some 73, some 74, some 75, some 76, some 77, some 78, some 79, some 80, some 81, some 82, some 83, some 84, some 85, some 86, some 87, some 88, some 89, some 90] [fun yy _ => yy = .bool true, fun yy _ => yy = .bool false, fun yy _ => yy = .bool false, fun yy _ => yy = .agg #[.int .i64 kx, .int .u64 hx, .int .u64 lx, .int .i64 nx, .int .i64 sx, .string cx, .int .u32 ix, .int .i64 ux], fun yy _ => yy = .agg #[.int .i64 kx, .int .u64 hx, .int .u64 lx, .int .i64 nx, .int .i64 sx, .string cx, .int .u32 ix, .int .i64 ux], fun yy _ => yy = .bool false, fun yy _ => yy = .bool false, fun yy _ => yy = .bool false, fun yy _ => yy = .pointer (some ⟨X, 4, none⟩), fun yy _ => yy = .int .i64 sx, fun yy _ => yy = .bool false, fun yy _ => yy = .bool false, fun yy _ => yy = undef, fun yy _ => yy = undef, fun yy _ => yy = undef, fun yy _ => yy = undef, fun yy _ => yy = undef, fun yy _ => yy = undef, fun yy _ => yy = undef, fun yy _ => yy = .bool false, fun yy _ => yy = .bool false, fun yy _ => yy = .bool false, fun yy _ => yy = Pt t, fun yy _ => yy = .pointer (some ⟨X, 0, none⟩), fun yy _ => yy = .int .i64 kx, fun yy _ => yy = .pointer (some ⟨X, 1, none⟩), fun yy _ => yy = .agg #[.int .u64 hx, .int .u64 lx, .int .i64 nx], fun yy W => ∃ p c, yy = .slice p 1 c ∧ RX p W, fun yy _ => yy = .agg #[.int .i64 kx, .int .u64 hx, .int .u64 lx, .int .i64 nx, .int .i64 sx, .string cx, .int .u32 ix, .int .i64 ux], fun yy W => ∃ g, yy = .slice (some ⟨g, 0, none⟩) 1 1 ∧ Vl8 g 0 kx hx lx nx sx cx ix ux W, fun yy _ => yy = .bool true, fun yy _ => yy = .bool false, fun yy _ => yy = .bool false] 184 (by kernel_rfl) (by kernel_rfl) rfl rfl (HV2.out.step (below_drew _)) ?_ ?_
          · refine ⟨⟨fun _ _ _ h _ => h, fun a' W K hC hd hf hK => ?_⟩, ⟨fun _ _ _ h _ => h, fun a' W K hC hd hf hK => ?_⟩, ⟨fun _ _ _ h _ => h, fun a' W K hC hd hf hK => ?_⟩, ⟨fun _ _ _ h _ => h, fun a' W K hC hd hf hK => ?_⟩, ⟨fun _ _ _ h _ => h, fun a' W K hC hd hf hK => ?_⟩, ⟨fun _ _ _ h _ => h, fun a' W K hC hd hf hK => ?_⟩, ⟨fun _ _ _ h _ => h, fun a' W K hC hd hf hK => ?_⟩, ⟨fun _ _ _ h _ => h, fun a' W K hC hd hf hK => ?_⟩, ⟨fun _ _ _ h _ => h, fun a' W K hC hd hf hK => ?_⟩, ⟨fun _ _ _ h _ => h, fun a' W K hC hd hf hK => ?_⟩, ⟨fun _ _ _ h _ => h, fun a' W K hC hd hf hK => ?_⟩, ⟨fun _ _ _ h _ => h, fun a' W K hC hd hf hK => ?_⟩, ⟨fun _ _ _ h _ => h, fun a' W K hC hd hf hK => ?_⟩, ⟨fun _ _ _ h _ => h, fun a' W K hC hd hf hK => ?_⟩, ⟨fun _ _ _ h _ => h, fun a' W K hC hd hf hK => ?_⟩, ⟨fun _ _ _ h _ => h, fun a' W K hC hd hf hK => ?_⟩, ⟨fun _ _ _ h _ => h, fun a' W K hC hd hf hK => ?_⟩, ⟨fun _ _ _ h _ => h, fun a' W K hC hd hf hK => ?_⟩, ⟨fun _ _ _ h _ => h, fun a' W K hC hd hf hK => ?_⟩, ⟨fun _ _ _ h _ => h, fun a' W K hC hd hf hK => ?_⟩, ⟨fun _ _ _ h _ => h, fun a' W K hC hd hf hK => ?_⟩, ⟨fun _ _ _ h _ => h, fun a' W K hC hd hf hK => ?_⟩, ⟨fun _ _ _ h _ => h, fun a' W K hC hd hf hK => ?_⟩, ⟨fun _ _ _ h _ => h, fun a' W K hC hd hf hK => ?_⟩, ⟨fun _ _ _ h _ => h, fun a' W K hC hd hf hK => ?_⟩, ⟨fun _ _ _ h _ => h, fun a' W K hC hd hf hK => ?_⟩, ⟨fun _ _ _ h _ => h, fun a' W K hC hd hf hK => ?_⟩, ⟨fun _ _ _ ⟨p, c, h0, h1⟩ hb => ⟨p, c, h0, F.out.rxs p _ _ h1 hb⟩, fun a' W K hC hd hf hK => ?_⟩, ⟨fun _ _ _ h _ => h, fun a' W K hC hd hf hK => ?_⟩, ⟨fun _ _ _ ⟨g, h0, h1⟩ hb => ⟨g, h0, h1.step hb⟩, fun a' W K hC hd hf hK => ?_⟩, ⟨fun _ _ _ h _ => h, fun a' W K hC hd hf hK => ?_⟩, ⟨fun _ _ _ h _ => h, fun a' W K hC hd hf hK => ?_⟩, ⟨fun _ _ _ h _ => h, fun a' W K hC hd hf hK => ?_⟩, trivial⟩
            · refine op_plain rfl ?_
              have f12 : a'.tmps[12]?.getD undef = .bool true := (hf.out 12 (by kernel_rfl)).trans (by simp)
              go_simp
              exact hK.out _ _ hC (Below.refl _ _) rfl
            · refine op_plain rfl ?_
              have d58 : a'.tmps[58]?.getD undef = .bool true := hd.out 0 58 (by kernel_rfl) rfl
              go_simp
              exact hK.out _ _ hC (Below.refl _ _) rfl
            · refine op_plain rfl ?_
              have d59 : a'.tmps[59]?.getD undef = .bool false := hd.out 1 59 (by kernel_rfl) rfl
              go_simp
              exact hK.out _ _ hC (Below.refl _ _) rfl
            · have gd : a'.tmps[60]?.getD undef = .bool false := hd.out 2 60 (by kernel_rfl) rfl
              refine op_yes rfl (by kernel_rfl) gd ?_
              clear gd
              have f11 : a'.tmps[11]?.getD undef = .pointer (some ⟨A, 0, none⟩) := (hf.out 11 (by kernel_rfl)).trans (by simp)
              obtain ⟨x0, x1, x2, x3, x4, x5, x6, x7⟩ := hC.xx.z
              obtain ⟨a0, a1, a2, a3, a4, a5, a6, a7⟩ := hC.aa.z
              obtain ⟨z0, z1, z2, z3, z4, z5, z6, z7⟩ := hC.bb.z
              go_simp
              exact hK.out _ _ hC (Below.refl _ _) rfl
            · have gd : a'.tmps[60]?.getD undef = .bool false := hd.out 2 60 (by kernel_rfl) rfl
              refine op_yes rfl (by kernel_rfl) gd ?_
              clear gd
              have f10 : a'.tmps[10]?.getD undef = .pointer (some ⟨X, 0, none⟩) := (hf.out 10 (by kernel_rfl)).trans (by simp)
              obtain ⟨x0, x1, x2, x3, x4, x5, x6, x7⟩ := hC.xx.z
              obtain ⟨a0, a1, a2, a3, a4, a5, a6, a7⟩ := hC.aa.z
              obtain ⟨z0, z1, z2, z3, z4, z5, z6, z7⟩ := hC.bb.z
              go_simp
              exact hK.out _ _ hC (Below.refl _ _) rfl
            · have gd : a'.tmps[60]?.getD undef = .bool false := hd.out 2 60 (by kernel_rfl) rfl
              refine op_yes rfl (by kernel_rfl) gd ?_
              clear gd
              have d61 : a'.tmps[61]?.getD undef = .agg #[.int .i64 kx, .int .u64 hx, .int .u64 lx, .int .i64 nx, .int .i64 sx, .string cx, .int .u32 ix, .int .i64 ux] := hd.out 3 61 (by kernel_rfl) rfl
              have d62 : a'.tmps[62]?.getD undef = .agg #[.int .i64 kx, .int .u64 hx, .int .u64 lx, .int .i64 nx, .int .i64 sx, .string cx, .int .u32 ix, .int .i64 ux] := hd.out 4 62 (by kernel_rfl) rfl
              go_simp
              exact hK.out _ _ hC (Below.refl _ _) rfl
            · refine op_plain rfl ?_
              have d60 : a'.tmps[60]?.getD undef = .bool false := hd.out 2 60 (by kernel_rfl) rfl
              have d63 : a'.tmps[63]?.getD undef = .bool false := hd.out 5 63 (by kernel_rfl) rfl
              go_simp
              exact hK.out _ _ hC (Below.refl _ _) rfl
            · refine op_plain rfl ?_
              have d64 : a'.tmps[64]?.getD undef = .bool false := hd.out 6 64 (by kernel_rfl) rfl
              go_simp
              exact hK.out _ _ hC (Below.refl _ _) rfl
            · have gd : a'.tmps[65]?.getD undef = .bool false := hd.out 7 65 (by kernel_rfl) rfl
              refine op_yes rfl (by kernel_rfl) gd ?_
              clear gd
              have f10 : a'.tmps[10]?.getD undef = .pointer (some ⟨X, 0, none⟩) := (hf.out 10 (by kernel_rfl)).trans (by simp)
              go_simp
              exact hK.out _ _ hC (Below.refl _ _) rfl
            · have gd : a'.tmps[65]?.getD undef = .bool false := hd.out 7 65 (by kernel_rfl) rfl
              refine op_yes rfl (by kernel_rfl) gd ?_
              clear gd
              have d66 : a'.tmps[66]?.getD undef = .pointer (some ⟨X, 4, none⟩) := hd.out 8 66 (by kernel_rfl) rfl
              obtain ⟨x0, x1, x2, x3, x4, x5, x6, x7⟩ := hC.xx.z
              obtain ⟨a0, a1, a2, a3, a4, a5, a6, a7⟩ := hC.aa.z
              obtain ⟨z0, z1, z2, z3, z4, z5, z6, z7⟩ := hC.bb.z
              go_simp
              exact hK.out _ _ hC (Below.refl _ _) rfl
            · have gd : a'.tmps[65]?.getD undef = .bool false := hd.out 7 65 (by kernel_rfl) rfl
              refine op_yes rfl (by kernel_rfl) gd ?_
              clear gd
              have d67 : a'.tmps[67]?.getD undef = .int .i64 sx := hd.out 9 67 (by kernel_rfl) rfl
              go_simp
              exact hK.out _ _ hC (Below.refl _ _) rfl
            · have gd : a'.tmps[65]?.getD undef = .bool false := hd.out 7 65 (by kernel_rfl) rfl
              refine op_yes rfl (by kernel_rfl) gd ?_
              clear gd
              have d68 : a'.tmps[68]?.getD undef = .bool false := hd.out 10 68 (by kernel_rfl) rfl
              go_simp
              exact hK.out _ _ hC (Below.refl _ _) rfl
            · have gd : a'.tmps[69]?.getD undef = .bool false := hd.out 11 69 (by kernel_rfl) rfl
              refine op_no rfl (by kernel_rfl) gd rfl ?_
              exact hK.out _ _ hC (Below.refl _ _) rfl
            · have gd : a'.tmps[69]?.getD undef = .bool false := hd.out 11 69 (by kernel_rfl) rfl
              refine op_no rfl (by kernel_rfl) gd rfl ?_
              exact hK.out _ _ hC (Below.refl _ _) rfl
            · have gd : a'.tmps[69]?.getD undef = .bool false := hd.out 11 69 (by kernel_rfl) rfl
              refine op_no rfl (by kernel_rfl) gd rfl ?_
              exact hK.out _ _ hC (Below.refl _ _) rfl
            · have gd : a'.tmps[72]?.getD undef = undef := hd.out 14 72 (by kernel_rfl) rfl
              refine op_undef rfl (by kernel_rfl) gd ?_
              exact hK.out _ _ hC (Below.refl _ _) rfl
            · have gd : a'.tmps[72]?.getD undef = undef := hd.out 14 72 (by kernel_rfl) rfl
              refine op_undef rfl (by kernel_rfl) gd ?_
              exact hK.out _ _ hC (Below.refl _ _) rfl
            · have gd : a'.tmps[72]?.getD undef = undef := hd.out 14 72 (by kernel_rfl) rfl
              refine op_undef rfl (by kernel_rfl) gd ?_
              exact hK.out _ _ hC (Below.refl _ _) rfl
            · have gd : a'.tmps[69]?.getD undef = .bool false := hd.out 11 69 (by kernel_rfl) rfl
              refine op_no rfl (by kernel_rfl) gd rfl ?_
              exact hK.out _ _ hC (Below.refl _ _) rfl
            · have gd : a'.tmps[65]?.getD undef = .bool false := hd.out 7 65 (by kernel_rfl) rfl
              refine op_yes rfl (by kernel_rfl) gd ?_
              clear gd
              have d69 : a'.tmps[69]?.getD undef = .bool false := hd.out 11 69 (by kernel_rfl) rfl
              have d76 : a'.tmps[76]?.getD undef = undef := hd.out 18 76 (by kernel_rfl) rfl
              go_simp
              exact hK.out _ _ hC (Below.refl _ _) rfl
            · refine op_plain rfl ?_
              have d65 : a'.tmps[65]?.getD undef = .bool false := hd.out 7 65 (by kernel_rfl) rfl
              have d77 : a'.tmps[77]?.getD undef = .bool false := hd.out 19 77 (by kernel_rfl) rfl
              go_simp
              exact hK.out _ _ hC (Below.refl _ _) rfl
            · refine op_plain rfl ?_
              have d78 : a'.tmps[78]?.getD undef = .bool false := hd.out 20 78 (by kernel_rfl) rfl
              go_simp
              exact hK.out _ _ hC (Below.refl _ _) rfl
            · have gd : a'.tmps[79]?.getD undef = .bool false := hd.out 21 79 (by kernel_rfl) rfl
              refine op_yes rfl (by kernel_rfl) gd ?_
              clear gd
              have f5 : a'.tmps[5]?.getD undef = Pt t := (hf.out 5 (by kernel_rfl)).trans (by simp)
              go_simp
              exact hK.out _ _ hC (Below.refl _ _) rfl
            · have gd : a'.tmps[79]?.getD undef = .bool false := hd.out 21 79 (by kernel_rfl) rfl
              refine op_yes rfl (by kernel_rfl) gd ?_
              clear gd
              have f10 : a'.tmps[10]?.getD undef = .pointer (some ⟨X, 0, none⟩) := (hf.out 10 (by kernel_rfl)).trans (by simp)
              go_simp
              exact hK.out _ _ hC (Below.refl _ _) rfl
            · have gd : a'.tmps[79]?.getD undef = .bool false := hd.out 21 79 (by kernel_rfl) rfl
              refine op_yes rfl (by kernel_rfl) gd ?_
              clear gd
              have d81 : a'.tmps[81]?.getD undef = .pointer (some ⟨X, 0, none⟩) := hd.out 23 81 (by kernel_rfl) rfl
              obtain ⟨x0, x1, x2, x3, x4, x5, x6, x7⟩ := hC.xx.z
              obtain ⟨a0, a1, a2, a3, a4, a5, a6, a7⟩ := hC.aa.z
              obtain ⟨z0, z1, z2, z3, z4, z5, z6, z7⟩ := hC.bb.z
              go_simp
              exact hK.out _ _ hC (Below.refl _ _) rfl
            · have gd : a'.tmps[79]?.getD undef = .bool false := hd.out 21 79 (by kernel_rfl) rfl
              refine op_yes rfl (by kernel_rfl) gd ?_
              clear gd
              have f10 : a'.tmps[10]?.getD undef = .pointer (some ⟨X, 0, none⟩) := (hf.out 10 (by kernel_rfl)).trans (by simp)
              go_simp
              exact hK.out _ _ hC (Below.refl _ _) rfl
            · have gd : a'.tmps[79]?.getD undef = .bool false := hd.out 21 79 (by kernel_rfl) rfl
              refine op_yes rfl (by kernel_rfl) gd ?_
              clear gd
              have d83 : a'.tmps[83]?.getD undef = .pointer (some ⟨X, 1, none⟩) := hd.out 25 83 (by kernel_rfl) rfl
              obtain ⟨x0, x1, x2, x3, x4, x5, x6, x7⟩ := hC.xx.z
              obtain ⟨a0, a1, a2, a3, a4, a5, a6, a7⟩ := hC.aa.z
              obtain ⟨z0, z1, z2, z3, z4, z5, z6, z7⟩ := hC.bb.z
              go_simp
              exact hK.out _ _ hC (Below.refl _ _) rfl
            · have gd : a'.tmps[79]?.getD undef = .bool false := hd.out 21 79 (by kernel_rfl) rfl
              refine op_yes rfl (by kernel_rfl) gd ?_
              clear gd
              have d80 : a'.tmps[80]?.getD undef = Pt t := hd.out 22 80 (by kernel_rfl) rfl
              have d82 : a'.tmps[82]?.getD undef = .int .i64 kx := hd.out 24 82 (by kernel_rfl) rfl
              have d84 : a'.tmps[84]?.getD undef = .agg #[.int .u64 hx, .int .u64 lx, .int .i64 nx] := hd.out 26 84 (by kernel_rfl) rfl
              go_simp; go_at_call 16; refine (F.out.meets _ hC.vld.1).mono ?_; rintro e w2 ⟨p, c, rfl, hr, hb2⟩; exact hK.out _ _ (hC.step hb2) hb2 ⟨p, c, rfl, hr⟩
            · have gd : a'.tmps[79]?.getD undef = .bool false := hd.out 21 79 (by kernel_rfl) rfl
              refine op_yes rfl (by kernel_rfl) gd ?_
              clear gd
              have f10 : a'.tmps[10]?.getD undef = .pointer (some ⟨X, 0, none⟩) := (hf.out 10 (by kernel_rfl)).trans (by simp)
              obtain ⟨x0, x1, x2, x3, x4, x5, x6, x7⟩ := hC.xx.z
              obtain ⟨a0, a1, a2, a3, a4, a5, a6, a7⟩ := hC.aa.z
              obtain ⟨z0, z1, z2, z3, z4, z5, z6, z7⟩ := hC.bb.z
              go_simp
              exact hK.out _ _ hC (Below.refl _ _) rfl
            · have gd : a'.tmps[79]?.getD undef = .bool false := hd.out 21 79 (by kernel_rfl) rfl
              refine op_yes rfl (by kernel_rfl) gd ?_
              clear gd
              have d86 : a'.tmps[86]?.getD undef = .agg #[.int .i64 kx, .int .u64 hx, .int .u64 lx, .int .i64 nx, .int .i64 sx, .string cx, .int .u32 ix, .int .i64 ux] := hd.out 28 86 (by kernel_rfl) rfl
              go_simp
              exact hK.out _ _ (hC.step (below_alloc _ _)) (below_alloc _ _) ⟨_, rfl, Vl8.new W kx hx lx nx sx cx ix ux _⟩
            · have gd : a'.tmps[79]?.getD undef = .bool false := hd.out 21 79 (by kernel_rfl) rfl
              refine op_yes rfl (by kernel_rfl) gd ?_
              clear gd
              have d85 := hd.out 27 85 (by kernel_rfl) rfl
              have d87 := hd.out 29 87 (by kernel_rfl) rfl
              obtain ⟨p85, c85, e85, r85⟩ := d85
              obtain ⟨g87, e87, r87⟩ := d87
              go_simp; go_at_call 15; refine (F.out.same _ p85 c85 g87 r85 r87).mono ?_; rintro e w2 ⟨rfl, hb2⟩; exact hK.out _ _ (hC.step hb2) hb2 rfl
            · have gd : a'.tmps[79]?.getD undef = .bool false := hd.out 21 79 (by kernel_rfl) rfl
              refine op_yes rfl (by kernel_rfl) gd ?_
              clear gd
              have d88 : a'.tmps[88]?.getD undef = .bool true := hd.out 30 88 (by kernel_rfl) rfl
              go_simp
              exact hK.out _ _ hC (Below.refl _ _) rfl
            · refine op_plain rfl ?_
              have d79 : a'.tmps[79]?.getD undef = .bool false := hd.out 21 79 (by kernel_rfl) rfl
              have d89 : a'.tmps[89]?.getD undef = .bool false := hd.out 31 89 (by kernel_rfl) rfl
              go_simp
              exact hK.out _ _ hC (Below.refl _ _) rfl
          · intro vs W hC hR
            have q0 : vs 0 = .bool true := hR.out 0 (by decide)
            have q1 : vs 1 = .bool false := hR.out 1 (by decide)
            have q2 : vs 2 = .bool false := hR.out 2 (by decide)
            have q3 : vs 3 = .agg #[.int .i64 kx, .int .u64 hx, .int .u64 lx, .int .i64 nx, .int .i64 sx, .string cx, .int .u32 ix, .int .i64 ux] := hR.out 3 (by decide)
            have q4 : vs 4 = .agg #[.int .i64 kx, .int .u64 hx, .int .u64 lx, .int .i64 nx, .int .i64 sx, .string cx, .int .u32 ix, .int .i64 ux] := hR.out 4 (by decide)
            have q5 : vs 5 = .bool false := hR.out 5 (by decide)
            have q6 : vs 6 = .bool false := hR.out 6 (by decide)
            have q7 : vs 7 = .bool false := hR.out 7 (by decide)
            have q8 : vs 8 = .pointer (some ⟨X, 4, none⟩) := hR.out 8 (by decide)
            have q9 : vs 9 = .int .i64 sx := hR.out 9 (by decide)
            have q10 : vs 10 = .bool false := hR.out 10 (by decide)
            have q11 : vs 11 = .bool false := hR.out 11 (by decide)
            have q12 : vs 12 = undef := hR.out 12 (by decide)
            have q13 : vs 13 = undef := hR.out 13 (by decide)
            have q14 : vs 14 = undef := hR.out 14 (by decide)
            have q15 : vs 15 = undef := hR.out 15 (by decide)
            have q16 : vs 16 = undef := hR.out 16 (by decide)
            have q17 : vs 17 = undef := hR.out 17 (by decide)
            have q18 : vs 18 = undef := hR.out 18 (by decide)
            have q19 : vs 19 = .bool false := hR.out 19 (by decide)
            have q20 : vs 20 = .bool false := hR.out 20 (by decide)
            have q21 : vs 21 = .bool false := hR.out 21 (by decide)
            have q22 : vs 22 = Pt t := hR.out 22 (by decide)
            have q23 : vs 23 = .pointer (some ⟨X, 0, none⟩) := hR.out 23 (by decide)
            have q24 : vs 24 = .int .i64 kx := hR.out 24 (by decide)
            have q25 : vs 25 = .pointer (some ⟨X, 1, none⟩) := hR.out 25 (by decide)
            have q26 : vs 26 = .agg #[.int .u64 hx, .int .u64 lx, .int .i64 nx] := hR.out 26 (by decide)
            generalize hq27 : vs 27 = q27
            have q28 : vs 28 = .agg #[.int .i64 kx, .int .u64 hx, .int .u64 lx, .int .i64 nx, .int .i64 sx, .string cx, .int .u32 ix, .int .i64 ux] := hR.out 28 (by decide)
            generalize hq29 : vs 29 = q29
            have q30 : vs 30 = .bool true := hR.out 30 (by decide)
            have q31 : vs 31 = .bool false := hR.out 31 (by decide)
            have q32 : vs 32 = .bool false := hR.out 32 (by decide)
            simp only [fillF, Act.put, List.setIfInBounds_toArray, List.set_cons_zero, List.set_cons_succ, Nat.reduceAdd, q0, q1, q2, q3, q4, q5, q6, q7, q8, q9, q10, q11, q12, q13, q14, q15, q16, q17, q18, q19, q20, q21, q22, q23, q24, q25, q26, hq27, q28, hq29, q30, q31, q32]
            clear hR q0 q1 q2 q3 q4 q5 q6 q7 q8 q9 q10 q11 q12 q13 q14 q15 q16 q17 q18 q19 q20 q21 q22 q23 q24 q25 q26 hq27 q28 hq29 q30 q31 q32
            go_wp2_with fail
            go_meet
            exact ⟨rfl, hC⟩
      case rest =>
        obtain ⟨rfl, H13⟩ := hcut
        have HC13 := hide H13
        obtain ⟨x0, x1, x2, x3, x4, x5, x6, x7⟩ := H13.xx.z
        clear H13 HV HOFE
        go_wp2_with fail
        refine (F.out.client _ HC13.out.vld.1).mono ?_
        rintro e w9 ⟨pm, cm, rfl, hRM, hb9⟩
        have V9 := hide (HC13.out.vld.step hb9)
        have X9 := hide (HC13.out.xx.step hb9)
        have HRM := hide hRM
        have msm := F.out.small
        have msm2 : (m : Int) ≤ 1024 := by omega
        clear x0 x1 x2 x3 x4 x5 x6 x7 hRM hb9 HC13 msm
        go_wp2_with fail
        go_loopw [16, 17] (fun n k wq => ∃ kk : Nat, kk ≤ m ∧ n = .int .i64 (cnt kk : Nat) ∧ k = .int .i64 (kk : Nat) ∧ Hid (Below w9.heap.size w9 wq)) (fun _ k => fun _ => m - (intOf k).toNat)
        case atStart => exact ⟨0, Nat.zero_le _, by rw [F.out.cnt0]; rfl, rfl, hide (Below.refl _ _)⟩
        case round =>
          obtain ⟨kk, hkk, rfl, rfl, HQ⟩ := hrel
          have hk0 : (0 : Int) ≤ (kk : Int) := by omega
          by_cases hkm : kk < m
          · have hkm2 : (kk : Int) < (m : Int) := by omega
            obtain ⟨ky, hy, ly, ny, sy, cy, iy, uy, bb, HY, EQ, CS⟩ := F.out.mine kk hkm
            obtain ⟨g, og, rfl, y0, y1, y2, y3, y4, y5, y6, y7⟩ := HY pm _ (F.out.rms pm _ _ HRM.out HQ.out)
            obtain ⟨x0, x1, x2, x3, x4, x5, x6, x7⟩ := (X9.out.step HQ.out).z
            have HCS := hide CS
            have ck := F.out.cntk kk
            have ck2 : (cnt kk : Int) ≤ 1024 := by omega
            have ck3 : (0 : Int) ≤ (cnt kk : Int) := by omega
            clear HY CS ck
            go_wp2_with fail
            go_quiet (fail)
            cases bb with
            | true =>
              go_wp2
              go_roundw
              case rel => exact ⟨kk + 1, hkm, by rw [HCS.out, if_pos rfl]; go_num, by go_num, hide (HQ.out.trans ((below_drewN _ _).mono HQ.out.size))⟩
              case measure => simp [intOf]; omega
            | false =>
              go_wp2
              go_roundw
              case rel => exact ⟨kk + 1, hkm, by rw [HCS.out, if_neg (by decide)]; rfl, by go_num, hide (HQ.out.trans ((below_drewN _ _).mono HQ.out.size))⟩
              case measure => simp [intOf]; omega
          · have hkm2 : ¬ (kk : Int) < (m : Int) := by omega
            have hend : cnt kk = if sx = 1 then 1 else 0 := by
              rw [show kk = m by omega]; exact F.out.cntm
            obtain ⟨x0, x1, x2, x3, x4, x5, x6, x7⟩ := (X9.out.step HQ.out).z
            have BV := hide (V9.out.step HQ.out).1
            go_upto_region 22 with fail
            go_cut [16, 118] (fun _ c wx => c = .bool false ∧ wx = wr)
            case first =>
              by_cases hs : sx = 1
              · have h1 : (sx == 1) = true := by rw [beq_iff_eq]; exact hs
                rw [if_pos hs] at hend
                rw [hend]
                clear hend hs
                go_wp2_with fail
                go_meet
                exact ⟨rfl, rfl⟩
              · have h1 : (sx == 1) = false := by rw [beq_eq_false_iff_ne]; exact hs
                rw [if_neg hs] at hend
                rw [hend]
                clear hend hs
                go_wp2_with fail
                go_meet
                exact ⟨rfl, rfl⟩
            case rest =>
              obtain ⟨rfl, hwc⟩ := hcut
              subst hwc
              have DS : Hid (dn (i + 1) = dn i + (if ux ≤ now then 1 else 0)) := hide (by have := F.out.due; rw [HDN.out] at this; exact this)
              have LS : Hid (lsn (i + 1) = if i = 0 then ux else if ux < lsn i then ux else lsn i) := hide (by have := F.out.least; rw [HLS.out, HLS.out] at this; exact this)
              have db : (dn i : Int) ≤ 1024 := by have := DLE.out i; rw [HDN.out] at this; omega
              have db0 : (0 : Int) ≤ (dn i : Int) := by omega
              clear hend F V9 X9 HRM
              by_cases hu : ux ≤ now
              all_goals
                by_cases hz : i = 0
                · have hz1 : ((i : Int) == 0) = true := by rw [beq_iff_eq]; omega
                  have HZ := hide hz
                  clear hz
                  go_wp2
                  go_roundw
                  case rel => exact ⟨i + 1, hlt, by rw [DS.out]; first | (rw [if_pos hu]; go_num) | (rw [if_neg hu]; rfl), by rw [LS.out, if_pos HZ.out], by go_num, BV⟩
                  case measure => simp [intOf]; omega
                · have hz1 : ((i : Int) == 0) = false := by rw [beq_eq_false_iff_ne]; omega
                  have HZ := hide hz
                  clear hz
                  by_cases hlu : ux < lsn i
                  · go_wp2
                    go_roundw
                    case rel => exact ⟨i + 1, hlt, by rw [DS.out]; first | (rw [if_pos hu]; go_num) | (rw [if_neg hu]; rfl), by rw [LS.out, if_neg HZ.out, if_pos hlu], by go_num, BV⟩
                    case measure => simp [intOf]; omega
                  · go_wp2
                    go_roundw
                    case rel => exact ⟨i + 1, hlt, by rw [DS.out]; first | (rw [if_pos hu]; go_num) | (rw [if_neg hu]; rfl), by rw [LS.out, if_neg HZ.out, if_neg hlu], by go_num, BV⟩
                    case measure => simp [intOf]; omega
    · have hlt2 : ¬ (i : Int) < (L.length : Int) := by omega
      have hie : i = L.length := by omega
      subst hie
      have DU := hide (tdue_any (T3.out.below HB.out) now)
      have BE := hide (chain B3.out HB.out)
      have TR := hide (T3.out.below HB.out)
      have DE : Hid ((L.filter (dueB now)).length = dn L.length) := hide (by rw [← DEND.out, HDN.out])
      have LE : Hid (nextL L = lsn L.length) := hide (by rw [← LEND.out]; exact HLS.out _)
      have db : (dn L.length : Int) ≤ 1024 := by have := DLE.out L.length; rw [HDN.out] at this; omega
      generalize dn L.length = dd at *
      generalize lsn L.length = ll at *
      clear DLE DEND LEND LZ HDN HLS D0 L0 HL HB T3 B3
      go_wp2_with fail
      refine DU.out.mono ?_
      rintro e w5 ⟨R, hp, hs, v, rfl, hr, hb⟩
      obtain ⟨pr, cr, rfl, hl, _⟩ := hr.lst
      have LR : R.length = dd := by rw [hp.length_eq]; exact DE.out
      have HR := hide hl
      have HS := hide hs
      have T5 := TR.out.below hb
      have NX : Hid (Calls Try.prog 19 #[Pt t] w5 (Same (.tuple #[.int .i64 ll, .bool (decide (0 < L.length))]) w5)) := hide (by
        have := next_any T5
        rw [LE.out, show decide (L ≠ []) = decide (0 < L.length) by rw [decide_eq_decide]; exact List.length_pos_iff.symm] at this
        exact this)
      have SZ := hide (size_any T5)
      have B5 := hide (chain BE.out hb)
      have HLR := hide LR
      rw [LR]
      clear hp hs hr hl hb DU TR DE LE BE LR T5
      go_wp2_with fail
      refine NX.out.mono ?_
      rintro e w6 ⟨rfl, rfl⟩
      go_wp2_with fail
      refine SZ.out.mono ?_
      rintro e w6 ⟨rfl, rfl⟩
      clear NX SZ
      go_wp2_with fail
      go_loopw [21] (fun ii wq => ∃ k : Nat, 1 ≤ k ∧ (k ≤ dd ∨ k = 1) ∧ ii = .int .i64 (k : Nat) ∧ Hid (Below w5.heap.size w5 wq)) (fun ii _ => dd - (intOf ii).toNat)
      case atStart => exact ⟨1, Nat.le_refl _, Or.inr rfl, rfl, hide (Below.refl _ _)⟩
      case round =>
        obtain ⟨k, hk1, hk2, rfl, HQ⟩ := hrel
        have hk0 : (0 : Int) ≤ (k : Int) := by omega
        by_cases hkd : k < dd
        · have hkd2 : (k : Int) < (dd : Int) := by omega
          obtain ⟨j, hj⟩ : ∃ j, k = j + 1 := ⟨k - 1, by omega⟩
          have hw : IntKind.i64.wrap ((k : Int) - 1) = (j : Int) := by rw [IntKind.wrap_i64]; omega
          have hj0 : (0 : Int) ≤ (j : Int) := by omega
          have hj1 : (j : Int) < (dd : Int) := by omega
          obtain ⟨x, hx⟩ : ∃ x, R[k]? = some x := ⟨_, List.getElem?_eq_getElem (by rw [HLR.out]; omega)⟩
          obtain ⟨y, hy⟩ : ∃ y, R[j]? = some y := ⟨_, List.getElem?_eq_getElem (by rw [HLR.out]; omega)⟩
          have hle : ¬ x.un < y.un := by have := due_un (due_at HS.out hy hx (by omega)); omega
          have HR2 := HR.out.step HQ.out
          obtain ⟨b, o, rfl, x0, x1, x2, x3, x4, x5, x6, x7⟩ := HR2 k x hx
          obtain ⟨b2, o2, e2, y0, y1, y2, y3, y4, y5, y6, y7⟩ := HR2 j y hy
          cases e2
          clear x0 x1 x2 x3 x4 x5 x6 y0 y1 y2 y3 y4 y5 y6 hx hy HR2 hj
          generalize x.un = xu at *
          generalize y.un = yu at *
          go_wp2_with fail
          go_quiet (fail)
          go_wp2
          go_roundw
          case rel => exact ⟨k + 1, by omega, Or.inl hkd, by go_num, hide (HQ.out.trans ((below_drewN _ _).mono HQ.out.size))⟩
          case measure => simp [intOf]; omega
        · have hkd2 : ¬ (k : Int) < (dd : Int) := by omega
          go_wp2
          go_ret
          exact ⟨rfl, chain B5.out HQ.out⟩
end Go.Proofs.Ytpldkgollhbolaa
