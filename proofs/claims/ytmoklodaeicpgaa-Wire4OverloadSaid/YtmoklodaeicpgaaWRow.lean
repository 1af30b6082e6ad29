/-
  How an argument that is a message is read. Condition: the places that were read lie in old memory.
-/
import Derived.Test.YtmoklodaeicpgaaOpRow
import Derived.Test.YtmoklodaeicpgaaWA
namespace Go.Proofs.Ytmoklodaeicpgaa
open Go.ChangeShapes Go.WideShapes Go.ChangeAt Go.RowKit Go.Joins

theorem cM : Try.prog.cellsOf 26 = 15 := by kernel_rfl
theorem c16 : Try.prog.cellsOf 23 = 1 := by kernel_rfl
theorem c32 : Try.prog.cellsOf 22 = 1 := by kernel_rfl
theorem cOs : Try.prog.cellsOf 24 = 1 := by kernel_rfl
theorem u16_of_wf {x : Int} (w : (Lit.int .u16 x).wf = true) : ∃ b : UInt16, x = (b.toNat : Int) := by
  have hb : 0 ≤ x ∧ x ≤ 65535 := by simpa [Lit.wf, IntKind.min, IntKind.max, IntKind.signed, IntKind.bits] using w
  refine ⟨UInt16.ofNat x.toNat, ?_⟩
  rw [UInt16.toNat_ofNat']
  omega
theorem u32_of_wf {x : Int} (w : (Lit.int .u32 x).wf = true) : ∃ b : UInt32, x = (b.toNat : Int) := by
  have hb : 0 ≤ x ∧ x ≤ 4294967295 := by simpa [Lit.wf, IntKind.min, IntKind.max, IntKind.signed, IntKind.bits] using w
  refine ⟨UInt32.ofNat x.toNat, ?_⟩
  rw [UInt32.toNat_ofNat']
  omega
theorem list15 {α : Type} {cs : List α} (h : cs.length = 15) : ∃ c0 c1 c2 c3 c4 c5 c6 c7 c8 c9 c10 c11 c12 c13 c14, cs = [c0, c1, c2, c3, c4, c5, c6, c7, c8, c9, c10, c11, c12, c13, c14] := by
  match cs, h with
  | [c0, c1, c2, c3, c4, c5, c6, c7, c8, c9, c10, c11, c12, c13, c14], _ => exact ⟨c0, c1, c2, c3, c4, c5, c6, c7, c8, c9, c10, c11, c12, c13, c14, rfl⟩
section
variable {H : Type} {enc : TypeId × Value → H} {W : World}
set_option maxRecDepth 100000 in
set_option maxHeartbeats 2000000 in
theorem open_msg {v : Value} {d : DataW H} {p : List MemPlace} {r : Reach} {b0 : Nat}
    (hv : Value.okWide Try.prog W r b0 26 v) (h : DataW.Trod enc Try.prog W 0 (fun _ => true) true 26 v d p) (hlt : ∀ q ∈ p, q.block < W.heap.size) :
    ∃ (m : Hd) (u : Value) (l : List Opt), v = MV m u ∧ LstO u l W ∧ (∃ parts du, d = .agg parts ∧ parts[14]? = some du ∧ ∀ x ∈ l, ∃ els spare, du = .slice els spare ∧ els.length = l.length) ∧
      ∀ (W' : World) (sp : Nat → Bool), Below W.heap.size W W' → (∀ q ∈ p, sp q.block = true) → DataW.Trod enc Try.prog W' 0 sp true 26 v d p := by
  obtain ⟨cs, rfl, hsz⟩ := okWide_struct Try.underlying26 hv
  obtain ⟨fuel, hf⟩ := h
  obtain ⟨cs⟩ := cs
  obtain ⟨zs, k, _, hx, hcs, hlen, hg⟩ := DataW.trod_struct Try.underlying26 hf
  obtain ⟨z0, z1, z2, z3, z4, z5, z6, z7, z8, z9, z10, z11, z12, z13, z14, rfl⟩ := list15 (α := DataW H × List MemPlace) hlen
  have hcs : cs.length = 15 := hcs.trans cM
  obtain ⟨c0, c1, c2, c3, c4, c5, c6, c7, c8, c9, c10, c11, c12, c13, c14, rfl⟩ := list15 hcs
  have g0 := hg 0 _ rfl
  have g1 := hg 1 _ rfl
  have g2 := hg 2 _ rfl
  have g3 := hg 3 _ rfl
  have g4 := hg 4 _ rfl
  have g5 := hg 5 _ rfl
  have g6 := hg 6 _ rfl
  have g7 := hg 7 _ rfl
  have g8 := hg 8 _ rfl
  have g9 := hg 9 _ rfl
  have g10 := hg 10 _ rfl
  have g11 := hg 11 _ rfl
  have g12 := hg 12 _ rfl
  have g13 := hg 13 _ rfl
  have g14 := hg 14 _ rfl
  simp [cB, c16, c32, cS, cOs, Value.cells] at g0 g1 g2 g3 g4 g5 g6 g7 g8 g9 g10 g11 g12 g13 g14
  obtain ⟨y0, f0, rfl, w0⟩ := DataW.trod_int Try.underlying5 g0
  obtain ⟨y1, f1, rfl, w1⟩ := DataW.trod_int Try.underlying5 g1
  obtain ⟨y2, f2, rfl, w2⟩ := DataW.trod_int Try.underlying5 g2
  obtain ⟨y3, f3, rfl, w3⟩ := DataW.trod_int Try.underlying5 g3
  obtain ⟨y4, f4, rfl, w4⟩ := DataW.trod_int Try.underlying22 g4
  obtain ⟨y5, f5, rfl, w5⟩ := DataW.trod_int Try.underlying23 g5
  obtain ⟨y6, f6, rfl, w6⟩ := DataW.trod_int Try.underlying23 g6
  obtain ⟨y7, f7, rfl, w7⟩ := DataW.trod_int Try.underlying22 g7
  obtain ⟨y8, f8, rfl, w8⟩ := DataW.trod_int Try.underlying22 g8
  obtain ⟨y9, f9, rfl, w9⟩ := DataW.trod_int Try.underlying22 g9
  obtain ⟨y10, f10, rfl, w10⟩ := DataW.trod_int Try.underlying22 g10
  obtain ⟨s11, f11, rfl, w11⟩ := DataW.trod_string Try.underlying9 g11
  obtain ⟨s12, f12, rfl, w12⟩ := DataW.trod_string Try.underlying9 g12
  obtain ⟨s13, f13, rfl, w13⟩ := DataW.trod_string Try.underlying9 g13
  simp at f0 f1 f2 f3 f4 f5 f6 f7 f8 f9 f10 f11 f12 f13
  subst f0 f1 f2 f3 f4 f5 f6 f7 f8 f9 f10 f11 f12 f13
  obtain ⟨b0', rfl⟩ := byte_of_wf w0
  obtain ⟨b1, rfl⟩ := byte_of_wf w1
  obtain ⟨b2, rfl⟩ := byte_of_wf w2
  obtain ⟨b3, rfl⟩ := byte_of_wf w3
  obtain ⟨x4, rfl⟩ := u32_of_wf w4
  obtain ⟨x5, rfl⟩ := u16_of_wf w5
  obtain ⟨x6, rfl⟩ := u16_of_wf w6
  obtain ⟨x7, rfl⟩ := u32_of_wf w7
  obtain ⟨x8, rfl⟩ := u32_of_wf w8
  obtain ⟨x9, rfl⟩ := u32_of_wf w9
  obtain ⟨x10, rfl⟩ := u32_of_wf w10
  obtain ⟨aa, ll, cc, rfl⟩ : ∃ aa ll cc, c14 = .slice aa ll cc := by
    rcases Go.Deep.open_slice Try.underlying24 g14 with ⟨hc2, _⟩ | ⟨a2, l2, c2, _, _, _, _, hc2, _⟩
    · exact ⟨none, 0, 0, by simpa using hc2⟩
    · exact ⟨some a2, l2, c2, by simpa using hc2⟩
  simp at hx
  obtain ⟨hd, hp⟩ := hx
  subst hp
  obtain ⟨l, h1, h2, h3⟩ := open_opts2 (v := .slice aa ll cc) (d := z14.1) (p := z14.2) ⟨aa, ll, cc, rfl⟩ ⟨k, by simpa [Value.cells] using g14⟩ hlt
  refine ⟨⟨b0', b1, b2, b3, x4, x5, x6, x7, x8, x9, x10, s11, s12, s13⟩, .slice aa ll cc, l, rfl, h2, ⟨_, z14.1, hd, rfl, h1⟩, fun W' sp hb hsp => ?_⟩
  obtain ⟨n, hn⟩ := h3 W' sp hb hsp
  cases n with
  | zero => simp [DataW.trod] at hn
  | succ n =>
    refine ⟨n + 2, ?_⟩
    have hn : DataW.trod enc Try.prog W' 0 sp true (n + 1) 24 [.slice aa ll cc] = some (z14.1, z14.2) := by simpa [Value.cells] using hn
    have I8 := fun (b : UInt8) (w : (Lit.int .u8 (b.toNat : Int)).wf = true) => trod_int_mk (enc := enc) (P := Try.prog) (w := W') (base := 0) (spare := sp) (held := true) n Try.underlying5 w
    have I16 := fun (b : UInt16) (w : (Lit.int .u16 (b.toNat : Int)).wf = true) => trod_int_mk (enc := enc) (P := Try.prog) (w := W') (base := 0) (spare := sp) (held := true) n Try.underlying23 w
    have I32 := fun (b : UInt32) (w : (Lit.int .u32 (b.toNat : Int)).wf = true) => trod_int_mk (enc := enc) (P := Try.prog) (w := W') (base := 0) (spare := sp) (held := true) n Try.underlying22 w
    have IS := fun (s : ByteArray) (w : s.size ≤ maxLen) => (show DataW.trod enc Try.prog W' 0 sp true (n + 1) 9 [.string s] = some (.lit (.string s.data.toList), []) by simp [DataW.trod, Try.underlying9, w])
    have := trod_struct_mk (enc := enc) (P := Try.prog) (w := W') (base := 0) (spare := sp) (held := true) (n := n + 1) (t := 26) (cs := (MV ⟨b0', b1, b2, b3, x4, x5, x6, x7, x8, x9, x10, s11, s12, s13⟩ (.slice aa ll cc)).cells.toList)
      (xs := [(.lit (.int .u8 (b0'.toNat : Int)), []), (.lit (.int .u8 (b1.toNat : Int)), []), (.lit (.int .u8 (b2.toNat : Int)), []), (.lit (.int .u8 (b3.toNat : Int)), []), (.lit (.int .u32 (x4.toNat : Int)), []), (.lit (.int .u16 (x5.toNat : Int)), []), (.lit (.int .u16 (x6.toNat : Int)), []), (.lit (.int .u32 (x7.toNat : Int)), []), (.lit (.int .u32 (x8.toNat : Int)), []), (.lit (.int .u32 (x9.toNat : Int)), []), (.lit (.int .u32 (x10.toNat : Int)), []), (.lit (.string s11.data.toList), []), (.lit (.string s12.data.toList), []), (.lit (.string s13.data.toList), []), z14])
      Try.underlying26 (by rw [cM]; rfl) (by simp [cB, c16, c32, cS, cOs, Value.cells, I8 _ w0, I8 _ w1, I8 _ w2, I8 _ w3, I32 _ w4, I16 _ w5, I16 _ w6, I32 _ w7, I32 _ w8, I32 _ w9, I32 _ w10, IS _ w11, IS _ w12, IS _ w13, hn])
    rw [hd]
    simpa using this
/-- what the statement's reach says of a message's options -/
theorem reach_msg {ts : List TypeId} {ds : List (DataW H)} (h : (DataW.weightsEach Try.prog ts ds).all (· ≤ reachBytes) = true) {j : Nat} (ht : ts[j]? = some 26) {parts els spare : List (DataW H)} (hd : ds[j]? = some (.agg parts)) (hp : parts[14]? = some (.slice els spare)) : els.length * 24 ≤ 140737488351232 := by
  have := List.all_eq_true.1 h _ (DataW.weights_mem_each ht hd ((els.length + spare.length) * 24) (by
    simp only [DataW.weights, Try.underlying26]
    refine DataW.weights_mem_each (j := 14) (t := 24) rfl hp _ ?_
    simp [DataW.weights, Try.underlying24, bytesO]))
  have h2 : (els.length + spare.length) * 24 ≤ reachBytes := by simpa using this
  have h3 : (els.length + spare.length) * 24 ≤ 140737488351232 := h2
  omega
end
end Go.Proofs.Ytmoklodaeicpgaa
