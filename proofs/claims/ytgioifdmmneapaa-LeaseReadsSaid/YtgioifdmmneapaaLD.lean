/-
  The contract of lease.Decode: what it returns for every bytes. Condition: the bytes are no longer than an int.
-/
import Derived.Test.YtgioifdmmneapaaLH
namespace Go.Proofs.Ytgioifdmmneapaa
open Go.RowKit Go.Joins

def decN (s : ByteArray) : Nat → List Ch → Int → Int → List Ch × Int × Int
  | 0, l, a, e => (l, a, e)
  | k + 1, l, a, e => if e = 0 then decN s k (l ++ [chC s a]) (chN s a) (chE s a) else (l, a, e)
def decT (s : ByteArray) : List Ch × Int × Int := decN s (getV 2 s 0) [] 2 (errS 0 (cutO s 0 2) 3)
def finE (s : ByteArray) (t : List Ch × Int × Int) : Int := errS (errS t.2.2 (!decide (t.2.1 < (s.size : Int))) 5) (!wrongL t.1) 80
def decE (s : ByteArray) : Int := if 2048 < getV 2 s 0 then 6 else finE s (decT s)
def decL (s : ByteArray) : List Ch := if 2048 < getV 2 s 0 then [] else if finE s (decT s) = 0 then (decT s).1 else []
theorem decN_stop {s : ByteArray} {k : Nat} {l : List Ch} {a e : Int} (h : e ≠ 0) : decN s k l a e = (l, a, e) := by
  cases k with
  | zero => rfl
  | succ k => rw [decN, if_neg h]
theorem decN_go {s : ByteArray} {k : Nat} {l : List Ch} {a : Int} : decN s (k + 1) l a 0 = decN s k (l ++ [chC s a]) (chN s a) (chE s a) := by rw [decN, if_pos rfl]

theorem errS_zero {e x : Int} {ok : Bool} (hx : x ≠ 0) : errS e ok x = 0 ↔ e = 0 ∧ ok = true := by
  unfold errS
  cases ok with
  | true => simp
  | false =>
    simp
    by_cases h : e = 0
    · simp [h, hx]
    · simp [h]
theorem takeE_le {s : ByteArray} {a : Int} (h : takeO s a = true) : 0 ≤ a ∧ a + 2 + (getV 2 s (a) : Nat) ≤ (s.size : Int) ∧ takeE s a = a + 2 + (getV 2 s a : Nat) := by
  have h2 := h
  unfold takeO at h2
  rw [Bool.and_eq_true] at h2
  have c1 := cut_true h2.1
  have c2 := cut_true h2.2
  refine ⟨c1.1, by omega, ?_⟩
  unfold takeE; rw [if_pos h]
theorem chN_range {s : ByteArray} {a : Int} (h : chE s a = 0) : 0 ≤ chN s a ∧ chN s a ≤ (s.size : Int) := by
  unfold chE at h
  unfold chN
  split at h
  · rename_i hm
    rw [if_pos hm]
    unfold hdE at h
    rw [errS_zero (by decide)] at h
    have := cut_true h.2
    omega
  · rename_i hm
    rw [if_neg hm]
    unfold ptE at h
    rw [errS_zero (by decide)] at h
    have := takeE_le h.2
    omega
theorem takeE_any (s : ByteArray) (a : Int) (h0 : 0 ≤ a) : 0 ≤ takeE s a ∧ takeE s a ≤ a + 65537 := by
  have := getV_lt 2 s a
  unfold takeE
  split <;> omega
theorem chN_any {s : ByteArray} {a : Int} (h0 : 0 ≤ a) : 0 ≤ chN s a ∧ chN s a ≤ a + 65600 := by
  unfold chN
  split
  · omega
  · have := takeE_any s (a + 1 + 1 + 1 + 16 + 1 + 4 + 8) (by omega)
    omega
theorem getV_i64 (n : Nat) (s : ByteArray) (a : Int) (hn : n ≤ 4) : I64 (getV n s a : Nat) := by
  have h := getV_lt n s a
  have : (256 : Nat) ^ n ≤ 256 ^ 4 := Nat.pow_le_pow_right (by omega) hn
  have e : (256 : Nat) ^ 4 = 4294967296 := rfl
  unfold I64
  omega
theorem toI_i64 (n : Nat) : I64 (toI n) := by unfold toI I64; rw [IntKind.wrap_i64]; omega
theorem chC_ok (s : ByteArray) (a : Int) : (chC s a).l.ok := by
  have z : I64 0 := by unfold I64; omega
  unfold chC
  split
  · exact ⟨getV_i64 1 s _ (by omega), getA_fits s _, getV_i64 1 s _ (by omega), z, by show 0 ≤ maxLen; omega, by show 0 < 4294967296; omega, z⟩
  · exact ⟨getV_i64 1 s _ (by omega), getA_fits s _, getV_i64 1 s _ (by omega), getV_i64 1 s _ (by omega), Nat.le_trans (takeV_size s _) (by unfold maxLen; omega), getV_lt 4 s _, toI_i64 _⟩

/-! ### the list in memory -/
def cellsC (l : List Ch) : List Value := (l.map wdC).flatten
theorem cellsC_snoc (l : List Ch) (c : Ch) : cellsC (l ++ [c]) = cellsC l ++ wdC c := by unfold cellsC; simp
theorem cellsC_at : ∀ (l : List Ch) (k i : Nat) (c : Ch), l[k]? = some c → i < 9 → (cellsC l)[k * 9 + i]? = (wdC c)[i]?
  | [], _, _, _, h, _ => by cases h
  | x :: l, 0, i, c, h, hi => by
    simp at h; subst h
    unfold cellsC
    rw [List.map_cons, List.flatten_cons, List.getElem?_append_left (by show 0 * 9 + i < 9; omega), Nat.zero_mul, Nat.zero_add]
  | x :: l, k + 1, i, c, h, hi => by
    have := cellsC_at l k i c (by simpa using h) hi
    unfold cellsC at *
    rw [List.map_cons, List.flatten_cons, List.getElem?_append_right (by show 9 ≤ _; omega)]
    have e : (k + 1) * 9 + i - (wdC x).length = k * 9 + i := by show (k + 1) * 9 + i - 9 = _; omega
    rw [e]; exact this
theorem infoC : (Try.prog.info? 31).map (fun i => (i.zero, i.size, i.bytes)) = some (some (.agg #[.bool false, .int .i64 0, .int .u64 0, .int .u64 0, .int .i64 0, .int .i64 0, .string ⟨#[]⟩, .int .u32 0, .int .i64 0]), 9, 80) := by kernel_rfl
/-- a list of the call's own -/
def OwnC (w : World) (base : Nat) (v : Value) (l : List Ch) : Prop := w.ownsRow base 31 9 v l.length (cellsC l)
theorem own_frC {S : Nat → Prop} {a b : World} {base : Nat} {v : Value} {l : List Ch} (h : OwnC a base v l) (k : Fr S a b) (hn : ∀ i, base ≤ i → ¬ S i) : OwnC b base v l := by
  refine ⟨h.1, ?_⟩
  rcases h.2 with hn2 | ⟨g, cap, cur, rfl, h2, h3, h4⟩
  · exact Or.inl hn2
  · exact Or.inr ⟨g, cap, cur, rfl, h2, k.keep h3 (hn g h2), h4⟩
theorem own_list {w : World} {base c : Nat} {p : Option Go.Addr} {l : List Ch} (h : OwnC w base (.slice p l.length c) l) : LstC p l w := by
  intro k x hk
  have hkl : k < l.length := (List.getElem?_eq_some_iff.1 hk).1
  have h2 := h
  unfold OwnC at h2
  rcases h.2 with ⟨hn, h0⟩ | ⟨g, cap, cur, hv, hb, hg, hr⟩
  · have h0 : l.length = 0 := by
      simp at hn
      omega
    omega
  · cases hv
    refine ⟨g, 0, rfl, ?_⟩
    have C : ∀ i, i < 9 → w.cell? ⟨g, 0 + k * 9 + i, none⟩ = (wdC x)[i]? := fun i hi => by
      rw [Nat.zero_add, h2.cellAt (k * 9 + i) (by omega), cellsC_at l k i x hk hi]
    exact ⟨C 0 (by omega), C 1 (by omega), C 2 (by omega), C 3 (by omega), C 4 (by omega), C 5 (by omega), C 6 (by omega), C 7 (by omega), C 8 (by omega)⟩
def sliceLen : Value → Nat
  | .slice _ n _ => n
  | _ => 0
theorem wd_cell (c : Ch) : ∀ u ∈ wdC c, u.oneCell' = true := by
  intro u hu
  unfold wdC wdL at hu
  simp at hu
  rcases hu with rfl | rfl | rfl | rfl | rfl | rfl | rfl | rfl | rfl <;> rfl
theorem wd_at (W : World) (c : Ch) (t : TypeId) : ∀ j u, (wdC c)[j]? = some u → (W.alloc (.cells #[.bool c.gone, .int .i64 c.l.kind, .int .u64 (hi c.l.p : Nat), .int .u64 (lo c.l.p : Nat), .int .i64 c.l.n, .int .i64 c.l.st, .string c.l.cl, .int .u32 (c.l.ia : Int), .int .i64 c.l.un] t)).cell? ((⟨W.heap.size, 0, none⟩ : Go.Addr).add j) = some u := by
  intro j u hj
  have ha : (⟨W.heap.size, 0, none⟩ : Go.Addr).add j = ⟨W.heap.size, j, none⟩ := by cases j <;> simp [Addr.add]
  rw [ha]
  have h := heap_alloc_new W (.cells #[.bool c.gone, .int .i64 c.l.kind, .int .u64 (hi c.l.p : Nat), .int .u64 (lo c.l.p : Nat), .int .i64 c.l.n, .int .i64 c.l.st, .string c.l.cl, .int .u32 (c.l.ia : Int), .int .i64 c.l.un] t)
  rw [cell_at h j, ← hj, ← Array.getElem?_toList]
  rfl
/-- what Decode leaves -/
def Dec (w : World) (l : List Ch) (er : Int) (e : Ending) (w' : World) : Prop := ∃ p c, e = .returned (.tuple #[.slice p l.length c, .int .i64 er]) ∧ LstC p l w' ∧ Below w.heap.size w w'

set_option maxRecDepth 100000 in
set_option maxHeartbeats 4000000 in
theorem dec_any (s : ByteArray) (hs : s.size ≤ maxLen) (w : World) :
    Calls Try.prog 22 #[.string s] w (Dec w (decL s) (decE s)) := by
  have hs2 := hs
  unfold maxLen at hs2
  have R0 : RdAt (w.alloc (.cells #[.string s, .int .i64 0, .int .i64 0] 72)) w.heap.size s 0 0 := heap_alloc_new _ _
  have T0 := hide (take_uint16 R0 hs (by omega) (by omega))
  have hn := getV_lt 2 s 0
  have DE : Hid (decE s = if 2048 < getV 2 s 0 then 6 else finE s (decT s)) := hide rfl
  have DL : Hid (decL s = if 2048 < getV 2 s 0 then [] else if finE s (decT s) = 0 then (decT s).1 else []) := hide rfl
  have DT : Hid (decT s = decN s (getV 2 s 0) [] 2 (errS 0 (cutO s 0 2) 3)) := hide rfl
  clear R0
  generalize getV 2 s 0 = n at *
  generalize errS 0 (cutO s 0 2) 3 = e0 at *
  generalize decT s = tt at *
  have W1 : IntKind.i64.wrap (n : Int) = (n : Int) := IntWalk.i64_in _ ⟨by omega, by omega⟩
  by_cases h1 : 2048 < n
  · have K1 := hide (show decE s = 6 by rw [DE.out, if_pos h1])
    have K2 := hide (show decL s = [] by rw [DL.out, if_pos h1])
    have h2 : 2048 < (n : Int) := by omega
    clear h1 DE DL hs2 hn
    go_enter Try.func22, Try.ntmps22
    go_wp2_with fail
    refine T0.out.mono ?_
    rintro e w1 ⟨rfl, F1, R1⟩
    go_wp2
    go_ret2
    refine ⟨none, 0, ?_, ?_, ((Fr.alloc w _).no.trans F1 (fun k hk e => by omega)).toBelow⟩
    · rw [K1.out, K2.out]; rfl
    · rw [K2.out]; intro k c hk; cases hk
  have K1 := hide (show decE s = finE s tt by rw [DE.out, if_neg h1])
  have K2 := hide (show decL s = if finE s tt = 0 then tt.1 else [] by rw [DL.out, if_neg h1])
  have h2 : ¬ 2048 < (n : Int) := by omega
  obtain ⟨i0, hi0, hz0, hz1, hz2⟩ := info_parts infoC
  clear DE DL hn
  go_enter Try.func22, Try.ntmps22
  go_wp2_with fail
  refine T0.out.mono ?_
  rintro e w1 ⟨rfl, F1, R1⟩
  have B1 : Below w.heap.size w w1 := ((Fr.alloc w (.cells #[.string s, .int .i64 0, .int .i64 0] 72)).no.trans F1 (fun k hk e => by omega)).toBelow
  have z1 : w.heap.size < w1.heap.size := lt_of_block R1
  clear F1 T0
  have RR := hide (show RdAt w1 w.heap.size s 2 e0 from R1)
  clear R1
  go_wp2_with fail
  go_loopw [6] (fun v wr => ∃ (l : List Ch) (p : Option Go.Addr) (c : Nat) (a e : Int), v = .slice p l.length c ∧ l.length ≤ n ∧ Hid (tt = decN s (n - l.length) l a e) ∧ Hid (okL l) ∧ Hid (OwnC wr (w.heap.size + 1) (.slice p l.length c) l) ∧ Hid (RdAt wr w.heap.size s a e) ∧ Below w.heap.size w wr ∧ 0 ≤ a ∧ a ≤ 2 + 65600 * (l.length : Int)) (fun v _ => n - sliceLen v)
  case atStart => exact ⟨[], none, 0, 2, e0, rfl, Nat.zero_le _, DT, hide (fun c hc => by cases hc), hide (World.ownsRow_nil _ _ _ _), RR, B1, by omega, by simp⟩
  case round =>
    clear RR B1 z1 DT
    obtain ⟨l, p, c, a, e, rfl, hln, HT, HO, HW, HR, HB, ha0, ha1⟩ := hrel
    have k1 := cell_at HR.out 1
    have k2 := cell_at HR.out 2
    simp at k1 k2
    by_cases hgo : e = 0 ∧ l.length < n
    · obtain ⟨rfl, hlt⟩ := hgo
      have hlt2 : (l.length : Int) < (n : Int) := by omega
      have CH := hide (rchange_any HR.out hs ha0 (by omega))
      have HT2 := hide (show tt = decN s (n - (l.length + 1)) (l ++ [chC s a]) (chN s a) (chE s a) by
        rw [HT.out, show n - l.length = (n - (l.length + 1)) + 1 by omega, decN_go])
      have HN := chN_any (s := s) ha0
      have HO2 := hide (show okL (l ++ [chC s a]) from fun x hx => by
        rcases List.mem_append.1 hx with h | h
        · exact HO.out x h
        · rw [List.mem_singleton.1 h]; exact chC_ok s a)
      generalize chC s a = x at *
      generalize chN s a = a2 at *
      generalize chE s a = e2 at *
      have hzB := HB.size
      have hgl := lt_of_block HR.out
      clear HT
      go_wp2_with fail
      refine CH.out.mono ?_
      rintro e3 w3 ⟨rfl, F3, R3⟩
      have B3 := HB.trans (F3.below hzB (fun k e => by omega))
      have z3 := F3.size
      have O3 := (own_frC HW.out F3 (fun i hi e => by omega))
      have O4 : (w3.alloc (.cells #[.bool x.gone, .int .i64 x.l.kind, .int .u64 (hi x.l.p : Nat), .int .u64 (lo x.l.p : Nat), .int .i64 x.l.n, .int .i64 x.l.st, .string x.l.cl, .int .u32 (x.l.ia : Int), .int .i64 x.l.un] 31)).ownsRow (w.heap.size + 1) 31 9 (.slice p l.length c) l.length (cellsC l) := World.ownsRow.alloc O3 _
      have B4 := B3.trans ((below_alloc w3 (.cells #[.bool x.gone, .int .i64 x.l.kind, .int .u64 (hi x.l.p : Nat), .int .u64 (lo x.l.p : Nat), .int .i64 x.l.n, .int .i64 x.l.st, .string x.l.cl, .int .u32 (x.l.ia : Int), .int .i64 x.l.un] 31)).mono B3.size)
      have z4 : w.heap.size + 1 ≤ (w3.alloc (.cells #[.bool x.gone, .int .i64 x.l.kind, .int .u64 (hi x.l.p : Nat), .int .u64 (lo x.l.p : Nat), .int .i64 x.l.n, .int .i64 x.l.st, .string x.l.cl, .int .u32 (x.l.ia : Int), .int .i64 x.l.un] 31)).heap.size := by simp; omega
      have R4 := hide (R3.no (Fr.alloc w3 (.cells #[.bool x.gone, .int .i64 x.l.kind, .int .u64 (hi x.l.p : Nat), .int .u64 (lo x.l.p : Nat), .int .i64 x.l.n, .int .i64 x.l.st, .string x.l.cl, .int .u32 (x.l.ia : Int), .int .i64 x.l.un] 31)))
      have LTO := hide (fun k (hk : (Value.slice p l.length c).ownBlock = some k) => (O4.lt k hk).1)
      clear k1 k2 HW HR CH F3 R3 O3 HB
      go_wp2_with (at_builtin; refine wpList_append_lies _ rfl (.tmp 26) (.tmp 29) 39 rfl (w.heap.size + 1) 31 i0 (.agg #[.bool false, .int .i64 0, .int .u64 0, .int .u64 0, .int .i64 0, .int .i64 0, .string ⟨#[]⟩, .int .u32 0, .int .i64 0]) 9 80 Try.underlying39 hi0 hz0 hz1 hz2 rfl (by decide) _ _ _ rfl O4 ⟨w3.heap.size, 0, none⟩ 1 1 (wdC x) rfl rfl (wd_at w3 x 31) (wd_cell x) (by omega) (by unfold maxLen; omega) (by omega) z4 _ rfl ?_; intro g2 cap2 w5 O5 G5 _ _)
      have B5 := B4.grown G5 B4.size (fun j hj => by have := LTO.out j hj; omega)
      have R5 := hide ((Fr.grown G5).keep R4.out (fun e => by have := LTO.out _ e.symm; omega))
      go_wp2
      go_roundw
      case rel =>
        refine ⟨l ++ [x], some ⟨g2, 0, none⟩, cap2, a2, e2, by rw [List.length_append]; rfl, by rw [List.length_append]; exact hlt, by rw [List.length_append]; exact HT2, HO2, hide ?_, R5, B5, HN.1, by rw [List.length_append]; have := HN.2; show a2 ≤ 2 + 65600 * ((l.length + 1 : Nat) : Int); omega⟩
        unfold OwnC
        rw [cellsC_snoc, List.length_append]; exact O5
      case measure => simp [sliceLen]; omega
    · have TT := hide (show tt = (l, a, e) by
        rw [HT.out]
        by_cases he : e = 0
        · rw [show n - l.length = 0 by omega]; rfl
        · exact decN_stop he)
      have hstop : ¬ e = 0 ∨ ¬ (l.length : Int) < (n : Int) := by omega
      have hlen : l.length ≤ 2048 := by omega
      have zB := HB.size
      have zR := lt_of_block HR.out
      have FE0 := hide (show finE s tt = errS (errS e (!decide (a < (s.size : Int))) 5) (!wrongL l) 80 by rw [TT.out]; rfl)
      clear HT hgo
      by_cases he : e = 0
      · have hl2 : ¬ (l.length : Int) < (n : Int) := by omega
        rw [he] at k2
        clear hstop
        by_cases hat : a < (s.size : Int)
        · have FE1 := hide (show finE s tt = errS (errS e false 5) (!wrongL l) 80 by rw [FE0.out, decide_eq_true hat]; rfl)
          go_wp2_with fail
          refine (fail_any HR.out 5).mono ?_
          rintro e3 w3 ⟨rfl, F3, R3⟩
          have R4 := hide R3
          have O4 := hide (own_frC HW.out F3 (fun i hi e => by omega))
          have B4 := HB.trans (F3.below zB (fun k e => by omega))
          clear R3 F3 HW HR HB k1 k2 FE0
          generalize errS e false 5 = e9 at *
          have LL := own_list O4.out
          go_wp2_with fail
          refine (wrong_any p c l HO.out (by unfold maxLen; omega) _ LL).mono ?_
          rintro e5 w5 ⟨rfl, hb5⟩
          have R5 := hide (R4.out.no (Fr.ofBelow hb5))
          have O5 := hide (own_frC O4.out (Fr.ofBelow hb5) (fun _ _ e => e))
          have B5 := B4.trans (hb5.mono B4.size)
          clear hb5 LL
          cases hw : wrongL l with
          | true =>
            have FE := hide (show finE s tt = errS e9 false 80 by rw [FE1.out, hw]; rfl)
            go_wp2_with fail
            refine (fail_any R5.out 80).mono ?_
            rintro e6 w6 ⟨rfl, F6, R6⟩
            have R7 := hide R6
            have O7 := hide (own_frC O5.out F6 (fun i hi e => by omega))
            have B7 := B5.trans (F6.below B5.size (fun k e => by omega))
            clear R6 F6 R5 O5 B5
            generalize errS e9 false 80 = e7 at *
            have q2 := cell_at R7.out 2
            simp at q2
            by_cases hz : e7 = 0
            · have K3 := hide (show decE s = 0 by rw [K1.out, FE.out, hz])
              have K4 := hide (show decL s = l by rw [K2.out, FE.out, if_pos hz, TT.out])
              rw [hz] at q2
              go_wp2
              go_ret2
              refine ⟨p, c, ?_, ?_, B7⟩
              · exact congrArg Ending.returned (tup2 (by rw [K4.out]; rfl) (i64_eq K3.out.symm))
              · rw [K4.out]; exact own_list O7.out
            · have K3 := hide (show decE s = e7 by rw [K1.out, FE.out])
              have K4 := hide (show decL s = [] by rw [K2.out, FE.out, if_neg hz])
              go_wp2_with fail
              go_region
              go_wp2
              go_ret2
              refine ⟨none, 0, ?_, ?_, B7.drew⟩
              · exact congrArg Ending.returned (tup2 (by rw [K4.out]; rfl) (i64_eq K3.out.symm))
              · rw [K4.out]; intro k c hk; cases hk
          | false =>
            have FE := hide (show finE s tt = e9 by rw [FE1.out, hw]; exact if_pos rfl)
            have q2 := cell_at R5.out 2
            simp at q2
            by_cases hz : e9 = 0
            · have K3 := hide (show decE s = 0 by rw [K1.out, FE.out, hz])
              have K4 := hide (show decL s = l by rw [K2.out, FE.out, if_pos hz, TT.out])
              rw [hz] at q2
              go_wp2
              go_ret2
              refine ⟨p, c, ?_, ?_, B5⟩
              · exact congrArg Ending.returned (tup2 (by rw [K4.out]; rfl) (i64_eq K3.out.symm))
              · rw [K4.out]; exact own_list O5.out
            · have K3 := hide (show decE s = e9 by rw [K1.out, FE.out])
              have K4 := hide (show decL s = [] by rw [K2.out, FE.out, if_neg hz])
              go_wp2_with fail
              go_region
              go_wp2
              go_ret2
              refine ⟨none, 0, ?_, ?_, B5.drew⟩
              · exact congrArg Ending.returned (tup2 (by rw [K4.out]; rfl) (i64_eq K3.out.symm))
              · rw [K4.out]; intro k c hk; cases hk
        · have FE1 := hide (show finE s tt = errS e (!wrongL l) 80 by rw [FE0.out, decide_eq_false hat]; rfl)
          have LL := own_list HW.out
          go_wp2_with fail
          refine (wrong_any p c l HO.out (by unfold maxLen; omega) _ LL).mono ?_
          rintro e5 w5 ⟨rfl, hb5⟩
          have R5 := hide (HR.out.no (Fr.ofBelow hb5))
          have O5 := hide (own_frC HW.out (Fr.ofBelow hb5) (fun _ _ e => e))
          have B5 := HB.trans (hb5.mono HB.size)
          clear hb5 LL
          cases hw : wrongL l with
          | true =>
            have FE := hide (show finE s tt = errS e false 80 by rw [FE1.out, hw]; rfl)
            go_wp2_with fail
            refine (fail_any R5.out 80).mono ?_
            rintro e6 w6 ⟨rfl, F6, R6⟩
            have R7 := hide R6
            have O7 := hide (own_frC O5.out F6 (fun i hi e => by omega))
            have B7 := B5.trans (F6.below B5.size (fun k e => by omega))
            clear R6 F6 R5 O5 B5
            generalize errS e false 80 = e7 at *
            have q2 := cell_at R7.out 2
            simp at q2
            by_cases hz : e7 = 0
            · have K3 := hide (show decE s = 0 by rw [K1.out, FE.out, hz])
              have K4 := hide (show decL s = l by rw [K2.out, FE.out, if_pos hz, TT.out])
              rw [hz] at q2
              go_wp2
              go_ret2
              refine ⟨p, c, ?_, ?_, B7⟩
              · exact congrArg Ending.returned (tup2 (by rw [K4.out]; rfl) (i64_eq K3.out.symm))
              · rw [K4.out]; exact own_list O7.out
            · have K3 := hide (show decE s = e7 by rw [K1.out, FE.out])
              have K4 := hide (show decL s = [] by rw [K2.out, FE.out, if_neg hz])
              go_wp2_with fail
              go_region
              go_wp2
              go_ret2
              refine ⟨none, 0, ?_, ?_, B7.drew⟩
              · exact congrArg Ending.returned (tup2 (by rw [K4.out]; rfl) (i64_eq K3.out.symm))
              · rw [K4.out]; intro k c hk; cases hk
          | false =>
            have FE := hide (show finE s tt = e by rw [FE1.out, hw]; exact if_pos rfl)
            have q2 := cell_at R5.out 2
            simp at q2
            have hz := he
            have K3 := hide (show decE s = 0 by rw [K1.out, FE.out, hz])
            have K4 := hide (show decL s = l by rw [K2.out, FE.out, if_pos hz, TT.out])
            rw [hz] at q2
            go_wp2
            go_ret2
            refine ⟨p, c, ?_, ?_, B5⟩
            · exact congrArg Ending.returned (tup2 (by rw [K4.out]; rfl) (i64_eq K3.out.symm))
            · rw [K4.out]; exact own_list O5.out
      · clear hstop
        by_cases hat : a < (s.size : Int)
        · have FE1 := hide (show finE s tt = errS (errS e false 5) (!wrongL l) 80 by rw [FE0.out, decide_eq_true hat]; rfl)
          go_wp2_with fail
          refine (fail_any HR.out 5).mono ?_
          rintro e3 w3 ⟨rfl, F3, R3⟩
          have R4 := hide R3
          have O4 := hide (own_frC HW.out F3 (fun i hi e => by omega))
          have B4 := HB.trans (F3.below zB (fun k e => by omega))
          clear R3 F3 HW HR HB k1 k2 FE0
          generalize errS e false 5 = e9 at *
          have LL := own_list O4.out
          go_wp2_with fail
          refine (wrong_any p c l HO.out (by unfold maxLen; omega) _ LL).mono ?_
          rintro e5 w5 ⟨rfl, hb5⟩
          have R5 := hide (R4.out.no (Fr.ofBelow hb5))
          have O5 := hide (own_frC O4.out (Fr.ofBelow hb5) (fun _ _ e => e))
          have B5 := B4.trans (hb5.mono B4.size)
          clear hb5 LL
          cases hw : wrongL l with
          | true =>
            have FE := hide (show finE s tt = errS e9 false 80 by rw [FE1.out, hw]; rfl)
            go_wp2_with fail
            refine (fail_any R5.out 80).mono ?_
            rintro e6 w6 ⟨rfl, F6, R6⟩
            have R7 := hide R6
            have O7 := hide (own_frC O5.out F6 (fun i hi e => by omega))
            have B7 := B5.trans (F6.below B5.size (fun k e => by omega))
            clear R6 F6 R5 O5 B5
            generalize errS e9 false 80 = e7 at *
            have q2 := cell_at R7.out 2
            simp at q2
            by_cases hz : e7 = 0
            · have K3 := hide (show decE s = 0 by rw [K1.out, FE.out, hz])
              have K4 := hide (show decL s = l by rw [K2.out, FE.out, if_pos hz, TT.out])
              rw [hz] at q2
              go_wp2
              go_ret2
              refine ⟨p, c, ?_, ?_, B7⟩
              · exact congrArg Ending.returned (tup2 (by rw [K4.out]; rfl) (i64_eq K3.out.symm))
              · rw [K4.out]; exact own_list O7.out
            · have K3 := hide (show decE s = e7 by rw [K1.out, FE.out])
              have K4 := hide (show decL s = [] by rw [K2.out, FE.out, if_neg hz])
              go_wp2_with fail
              go_region
              go_wp2
              go_ret2
              refine ⟨none, 0, ?_, ?_, B7.drew⟩
              · exact congrArg Ending.returned (tup2 (by rw [K4.out]; rfl) (i64_eq K3.out.symm))
              · rw [K4.out]; intro k c hk; cases hk
          | false =>
            have FE := hide (show finE s tt = e9 by rw [FE1.out, hw]; exact if_pos rfl)
            have q2 := cell_at R5.out 2
            simp at q2
            by_cases hz : e9 = 0
            · have K3 := hide (show decE s = 0 by rw [K1.out, FE.out, hz])
              have K4 := hide (show decL s = l by rw [K2.out, FE.out, if_pos hz, TT.out])
              rw [hz] at q2
              go_wp2
              go_ret2
              refine ⟨p, c, ?_, ?_, B5⟩
              · exact congrArg Ending.returned (tup2 (by rw [K4.out]; rfl) (i64_eq K3.out.symm))
              · rw [K4.out]; exact own_list O5.out
            · have K3 := hide (show decE s = e9 by rw [K1.out, FE.out])
              have K4 := hide (show decL s = [] by rw [K2.out, FE.out, if_neg hz])
              go_wp2_with fail
              go_region
              go_wp2
              go_ret2
              refine ⟨none, 0, ?_, ?_, B5.drew⟩
              · exact congrArg Ending.returned (tup2 (by rw [K4.out]; rfl) (i64_eq K3.out.symm))
              · rw [K4.out]; intro k c hk; cases hk
        · have FE1 := hide (show finE s tt = errS e (!wrongL l) 80 by rw [FE0.out, decide_eq_false hat]; rfl)
          have LL := own_list HW.out
          go_wp2_with fail
          refine (wrong_any p c l HO.out (by unfold maxLen; omega) _ LL).mono ?_
          rintro e5 w5 ⟨rfl, hb5⟩
          have R5 := hide (HR.out.no (Fr.ofBelow hb5))
          have O5 := hide (own_frC HW.out (Fr.ofBelow hb5) (fun _ _ e => e))
          have B5 := HB.trans (hb5.mono HB.size)
          clear hb5 LL
          cases hw : wrongL l with
          | true =>
            have FE := hide (show finE s tt = errS e false 80 by rw [FE1.out, hw]; rfl)
            go_wp2_with fail
            refine (fail_any R5.out 80).mono ?_
            rintro e6 w6 ⟨rfl, F6, R6⟩
            have R7 := hide R6
            have O7 := hide (own_frC O5.out F6 (fun i hi e => by omega))
            have B7 := B5.trans (F6.below B5.size (fun k e => by omega))
            clear R6 F6 R5 O5 B5
            generalize errS e false 80 = e7 at *
            have q2 := cell_at R7.out 2
            simp at q2
            by_cases hz : e7 = 0
            · have K3 := hide (show decE s = 0 by rw [K1.out, FE.out, hz])
              have K4 := hide (show decL s = l by rw [K2.out, FE.out, if_pos hz, TT.out])
              rw [hz] at q2
              go_wp2
              go_ret2
              refine ⟨p, c, ?_, ?_, B7⟩
              · exact congrArg Ending.returned (tup2 (by rw [K4.out]; rfl) (i64_eq K3.out.symm))
              · rw [K4.out]; exact own_list O7.out
            · have K3 := hide (show decE s = e7 by rw [K1.out, FE.out])
              have K4 := hide (show decL s = [] by rw [K2.out, FE.out, if_neg hz])
              go_wp2_with fail
              go_region
              go_wp2
              go_ret2
              refine ⟨none, 0, ?_, ?_, B7.drew⟩
              · exact congrArg Ending.returned (tup2 (by rw [K4.out]; rfl) (i64_eq K3.out.symm))
              · rw [K4.out]; intro k c hk; cases hk
          | false =>
            have FE := hide (show finE s tt = e by rw [FE1.out, hw]; exact if_pos rfl)
            have q2 := cell_at R5.out 2
            simp at q2
            have hz := he
            have K3 := hide (show decE s = e by rw [K1.out, FE.out])
            have K4 := hide (show decL s = [] by rw [K2.out, FE.out, if_neg hz])
            go_wp2_with fail
            go_region
            go_wp2
            go_ret2
            refine ⟨none, 0, ?_, ?_, B5.drew⟩
            · exact congrArg Ending.returned (tup2 (by rw [K4.out]; rfl) (i64_eq K3.out.symm))
            · rw [K4.out]; intro k c hk; cases hk
end Go.Proofs.Ytgioifdmmneapaa
