/-
  The document's own Emit; rows of bytes of the call's own. Condition: a row is no longer than an int; bytes take at most 2^47 bytes.
-/
import Derived.Test.YtcpldojgmboipaaSrA
namespace Go.Proofs.Ytcpldojgmboipaa
open Go.RowKit Go.Joins

def OwnB (w : World) (base : Nat) (v : Value) (l : List UInt8) : Prop := w.ownsRow base 5 1 v l.length (l.map byteV)
theorem OwnB.step {W W2 : World} {base : Nat} {v : Value} {l : List UInt8} (h : OwnB W base v l) (hb : Below W.heap.size W W2) : OwnB W2 base v l := own_keep h hb
theorem ownB_some {w : World} {base n : Nat} {v : Value} {xs : List Value} {e : TypeId} {size : Nat} (h : w.ownsRow base e size v n xs) (hn : v ≠ .slice none 0 0) : ∃ g c, v = .slice (some ⟨g, 0, none⟩) n c := by
  rcases h.2 with ⟨h1, _⟩ | ⟨g, cap, cur, h1, _⟩
  · exact absurd h1 hn
  · exact ⟨g, cap, h1⟩
/-- append of a string's bytes -/
theorem wpList_append_bytes {w : World} {ops : Array Oper} {rest : List Oper} {o : Oper} {a : Act} {Q : Exit → Act → World → Prop} (hgd : o.guard = none) (s x : Operand)
    (ho : o.op = .call { callee := .builtin .append, args := #[s, x], argTypes := #[65, 9] })
    (base g c n : Nat) (l : List UInt8) (hn : n = l.length) (hs : a.eval s = .slice (some ⟨g, 0, none⟩) n c) (hown : OwnB w base (.slice (some ⟨g, 0, none⟩) n c) l) (y : ByteArray) (hx : a.eval x = .string y)
    (hb : l.length + y.size ≤ 140737488355328) (hbase : base ≤ w.heap.size)
    (h : ∀ g2 c2 n2 w', n2 = (l ++ lb y).length → OwnB w' base (.slice (some ⟨g2, 0, none⟩) n2 c2) (l ++ lb y) → Below base w w' → wpList Try.prog ops Q rest (a.put o.dst (.slice (some ⟨g2, 0, none⟩) n2 c2)) w') : wpList Try.prog ops Q (o :: rest) a w := by
  subst hn
  obtain ⟨i0, hi, hz0, hz1, hz2⟩ := info_parts infoB
  refine Lib.wpList_append_own_string w hgd s x 65 9 ho base 5 i0 Try.underlying65 Try.underlying9 hi hz0 hz1 hz2 _ l.length (l.map byteV) hs hown y hx (by unfold maxLen; omega) hb hbase ?_
  intro v' w' h1 h2 h3
  have hv : v' ≠ .slice none 0 0 := fun e => by have := (h3.1 e).1; cases this
  obtain ⟨g2, c2, rfl⟩ := ownB_some h1 hv
  have e : (l ++ lb y).length = l.length + y.size := by rw [List.length_append, lb_len]
  rw [← e]
  refine h g2 c2 _ w' rfl ?_ ((Below.refl _ _).grown h2 hbase (fun j hj => (World.ownsRow.lt hown j hj).1))
  unfold OwnB
  rw [e, List.map_append]
  exact h1
theorem conv_bytes {w : World} {base g c n : Nat} {l : List UInt8} (h : OwnB w base (.slice (some ⟨g, 0, none⟩) n c) l) (hn : n = l.length) : (convert 65 9 (.slice (some ⟨g, 0, none⟩) n c)).run Try.prog w = .ok (St l) w := by
  subst hn
  exact conv_own h
theorem emit_take {l : List Opt} {k : Nat} {x : Opt} (hx : l[k]? = some x) (hz : x.2.size ≤ 65535) : emitL (l.take (k + 1)) = (emitL (l.take k) ++ lb (bs (beL 2 x.1.toNat))) ++ lb (runV x.2) := by
  rw [take_snoc1 hx, emitL_append, emitL_one, optL, (run_size hz).2, lb_bs, List.append_assoc]
set_option maxRecDepth 100000 in
set_option maxHeartbeats 4000000 in
theorem remit_any {v : Value} {l : List Opt} (hl : l.length ≤ 9223372036854775807) (w : World) (hv : LstO v l w) :
    Calls Try.prog 14 #[v] w (EmitP l w) := by
  have HV := hide (fun W (H : Below w.heap.size w W) => hv.step H)
  obtain ⟨p, c, rfl⟩ := lstO_len hv
  by_cases h128 : 128 < l.length
  · have E := hide (em_many h128)
    have P1 : (128 : Int) < (l.length : Int) := by omega
    clear hv
    go_enter Try.func14, Try.ntmps14
    go_wp2
    go_ret2
    exact ⟨congrArg Ending.returned (tup2 (by rw [E.out.2]; rfl) (by rw [E.out.1]; rfl)), Below.refl _ _⟩
  · have P1 : ¬ (128 : Int) < (l.length : Int) := by omega
    have hlcap := (lstO_cap hv).2.1
    have S0 := hide (show OwnB (w.alloc (.cells #[] 5)) w.heap.size (.slice (some ⟨w.heap.size, 0, none⟩) 0 0) (emitL (l.take 0)) from World.ownsRow_lit (base := w.heap.size) (e := 5) (size := 1) w #[] 0 (Nat.le_refl _) (by omega) rfl)
    have B0 := hide (below_alloc w (.cells #[] 5))
    clear hv
    go_enter Try.func14, Try.ntmps14
    go_wp2_with fail
    go_loopw [4, 5] (fun va vi wr => ∃ k g n c2 : Nat, k ≤ l.length ∧ vi = .int .i64 (k : Nat) ∧ va = .slice (some ⟨g, 0, none⟩) n c2 ∧ Hid (n = (emitL (l.take k)).length) ∧ Hid (okO (l.take k)) ∧ Hid (OwnB wr w.heap.size (.slice (some ⟨g, 0, none⟩) n c2) (emitL (l.take k))) ∧ Hid (Below w.heap.size w wr)) (fun _ vi _ => l.length - (intOf vi).toNat)
    case atStart => exact ⟨0, _, 0, 0, Nat.zero_le _, rfl, rfl, hide rfl, hide (fun x hx => by cases hx), S0, B0⟩
    case round =>
      obtain ⟨k, g, n, c2, hk, rfl, rfl, HN, HK, HS, HB⟩ := hrel
      clear S0 B0
      by_cases hlt : k < l.length
      · obtain ⟨x, hx⟩ := getO_some hlt
        obtain ⟨b, o, rfl, _, x1, x2⟩ := lstO_at (HV.out _ HB.out) hx
        have kc : k ≤ c := by omega
        have RN := hide (fun W => run_ref x.2 W)
        by_cases hz : x.2.size ≤ 65535
        · have OK1 := hide (show okO (l.take (k + 1)) by
            rw [take_snoc1 hx]
            exact HK.out.append (fun y hy => by rw [List.mem_singleton] at hy; subst hy; exact hz))
          have ET := hide (emit_take hx hz)
          have PU := hide (fun W => put16_ref x.1.toNat x.1.toNat_lt W)
          have AT := hide (fun W h => lstO_at (HV.out W h) hx)
          have L1 : (emitL (l.take k)).length ≤ 8388992 := by
            have := emit_len HK.out
            rw [List.length_take] at this
            omega
          have Z1 : (bs (beL 2 x.1.toNat)).size = 2 := by rw [bs_len, beL_length]
          have Z2 : (runV x.2).size ≤ 65537 := by rw [← lb_len, (run_size hz).2, List.length_append, beL_length, lb_len]; omega
          rw [(run_size hz).1] at RN
          generalize emitL (l.take k) = pre at *
          generalize runV x.2 = q at *
          generalize beL 2 x.1.toNat = m at *
          clear hx HK hz
          go_wp2_with fail
          refine (RN.out _).mono ?_
          rintro e w2 ⟨rfl, hb2⟩
          have D2 := hide (HB.out.trans (hb2.mono HB.out.size))
          have S2 := hide (HS.out.step hb2)
          clear hb2 HB HS x1 x2 RN
          obtain ⟨b', o', e', _, x1, x2⟩ := AT.out _ D2.out
          obtain ⟨rfl, rfl⟩ : b = b' ∧ o = o' := by cases e'; exact ⟨rfl, rfl⟩
          clear e' AT
          go_wp2_with fail
          refine (PU.out _).mono ?_
          rintro e w3 ⟨rfl, hb3⟩
          have D3 := hide (D2.out.trans (hb3.mono D2.out.size))
          have S3 := hide (S2.out.step hb3)
          clear hb3 D2 S2 x1 x2 PU
          have Z3 : (pre ++ lb (bs m)).length + q.size ≤ 140737488355328 := by rw [List.length_append, lb_len]; omega
          go_wp2_with (first | (at_builtin; refine wpList_append_bytes rfl (.tmp 29) (.tmp 35) rfl w.heap.size g c2 n pre HN.out rfl S3.out (bs m) rfl (by omega) D3.out.size ?_; intro g5 c5 n5 w5 q1 q2 q3; have N5 := hide q1; have S5 := hide q2; have D5 := hide (D3.out.trans q3); clear q1 q2 q3) | (at_builtin; refine wpList_append_bytes rfl (.tmp 37) (.tmp 38) rfl w.heap.size g5 c5 n5 (pre ++ lb (bs m)) N5.out rfl S5.out q rfl Z3 D5.out.size ?_; intro g6 c6 n6 w6 q1 q2 q3; have N6 := hide q1; have S6 := hide q2; have D6 := hide (D5.out.trans q3); clear q1 q2 q3))
          go_roundw
          case rel => exact ⟨k + 1, g6, n6, c6, hlt, by go_num, rfl, by rw [ET.out]; exact N6, OK1, by rw [ET.out]; exact S6, D6⟩
          case measure => simp [intOf]; omega
        · have E := hide (em_bad (by omega) hx hz)
          rw [show runO x.2 = false by unfold runO; rw [decide_eq_false_iff_not]; exact hz] at RN
          generalize runV x.2 = q at *
          clear hx HK HS hz HN
          go_wp2_with fail
          refine (RN.out _).mono ?_
          rintro e w2 ⟨rfl, hb2⟩
          have D2 := hide (HB.out.trans (hb2.mono HB.out.size))
          go_wp2
          go_ret2
          exact ⟨congrArg Ending.returned (tup2 (by rw [E.out.2]; rfl) (by rw [E.out.1]; rfl)), D2.out⟩
      · have : k = l.length := by omega
        subst this
        have hT : l.take l.length = l := List.take_length
        rw [hT] at HK HS HN
        have E := hide (em_good (by omega) HK.out)
        have CV := conv_bytes HS.out HN.out
        generalize emitL l = m at *
        clear HK HS hT hlt HN
        go_wp2
        go_ret2
        exact ⟨congrArg Ending.returned (tup2 (by rw [E.out.2]; rfl) (by rw [E.out.1]; rfl)), HB.out⟩
end Go.Proofs.Ytcpldojgmboipaa
