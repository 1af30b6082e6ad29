/-
  The law Wire4Short: what is cut, spoilt or too long is refused. Condition: a row of options takes at most 2^47 bytes.
-/
import Derived.Test.YtmoklodaeicpgaaWP
import Derived.Lib.BufferWrite
namespace Go.Proofs.Ytmoklodaeicpgaa
open Go.RowKit Go.Joins

theorem dec_short {s : ByteArray} (h : s.size < 240) : decR s = (3, zeroH, []) := by unfold decR; rw [if_neg (by omega), if_pos h]
theorem dec_long {s : ByteArray} (h : 65507 < s.size) : decR s = (6, zeroH, []) := by unfold decR; rw [if_pos h]
theorem dec_cookie {s : ByteArray} (h1 : 240 ≤ s.size) (h2 : s.size ≤ 65507) (h : sub s 236 4 ≠ bs cookieL) : decR s = (140, zeroH, []) := by unfold decR; rw [if_neg (by omega), if_neg (by omega), if_pos h]
theorem parse_tail {l : List Opt} (h : emitE l = 0) (b : List UInt8) : parseL [emitS l ++ b] [] = (0, gsOf l) := by
  obtain ⟨h1, h2⟩ := emitE_zero h
  have e : readA (emitS l ++ b) [] = (0, gsOf l) := by
    unfold emitS
    rw [if_pos h, List.append_assoc]
    have := read_emit h1 h2 ([255] ++ b) l.length 0 (by omega)
    rw [List.drop_zero, List.take_zero] at this
    exact this.trans (readA_end _ _)
  unfold parseL
  rw [e, if_pos rfl]; rfl
theorem parse_tailO {l : List Opt} (h : emitE l = 0) (b : List UInt8) : parseE [emitS l ++ b] = 0 ∧ parseO [emitS l ++ b] = l := by
  have p := parse_tail h b
  have e : parseE [emitS l ++ b] = 0 := by unfold parseE; rw [p]
  refine ⟨e, ?_⟩
  unfold parseO
  rw [if_pos e, p]
  exact opts_gs l
/-- bytes behind a message's are nothing -/
theorem dec_tail {m : Ms} (h : encE m = 0) {s : ByteArray} {z : List UInt8} (hs : lb s = encS m ++ z) (hl : s.size ≤ 65507) : decR s = (0, m.1, m.2) := by
  obtain ⟨h1, h2, h3, _⟩ := encE_zero h
  have he : encS m = encL m := by unfold encS; rw [if_pos h]
  rw [he] at hs
  have hb : lb s = bytesF m.1.fs ++ (cookieL ++ (emitS m.2 ++ z)) := by rw [hs]; unfold encL; simp only [List.append_assoc]
  obtain ⟨p1, p2⟩ := parse_tailO h2 z
  rw [dec_area h1 hb hl, p1, if_neg (fun e => e rfl), p2, ovN_none h3]
  have ar : areasR (emitS m.2 ++ z) m.1 0 = [emitS m.2 ++ z] := rfl
  simp only [ar, p1, p2, kept_all h3, headN_zero]
  rfl
theorem enc_head {m : Ms} (h : encE m = 0) : ∃ p r, encS m = p ++ (cookieL ++ r) ∧ p.length = 236 := by
  obtain ⟨h1, _, _, _⟩ := encE_zero h
  have he : encS m = encL m := by unfold encS; rw [if_pos h]
  exact ⟨bytesF m.1.fs, emitS m.2, he, bytesF_size h1⟩
/-- a byte of the cookie changed -/
theorem cookie_set {m : Ms} (h : encE m = 0) {k : Nat} (hk : k < 4) {x y : UInt8} (hx : (encS m)[236 + k]? = some x) (hy : y ≠ x) : sub (bs ((encS m).set (236 + k) y)) 236 4 ≠ bs cookieL := by
  obtain ⟨p, r, e, hp⟩ := enc_head h
  intro hc
  have h1 : lb (sub (bs ((encS m).set (236 + k) y)) 236 4) = (((encS m).set (236 + k) y).drop 236).take 4 := by
    show (sub _ 236 4).data.toList = _
    rw [sub_list]
  rw [hc] at h1
  have h2 : lb (bs cookieL) = cookieL := lb_bs _
  rw [h2] at h1
  have h3 : cookieL[k]? = some y := by
    rw [h1, List.getElem?_take, if_pos hk, List.getElem?_drop, List.getElem?_set_self (List.getElem?_eq_some_iff.1 hx).1]
  have h4 : cookieL[k]? = some x := by
    rw [e, List.getElem?_append_right (by omega), hp, Nat.add_sub_cancel_left, List.getElem?_append_left (by show k < 4; exact hk)] at hx
    exact hx
  rw [h3] at h4
  exact hy (Option.some.inj h4)
/-- a whole row of bytes -/
def RowC (g : Nat) (l : List UInt8) (W : World) : Prop := W.heap[g]? = some (.cells (cellsB l).toArray 5 (0, 0))
theorem RowC.step {g : Nat} {l : List UInt8} {W w2 : World} (h : RowC g l W) (hb : Below W.heap.size W w2) : RowC g l w2 := (hb.block g (lt_of_block h)).trans h
theorem RowC.row {g : Nat} {l : List UInt8} {W : World} (h : RowC g l W) : RowL g l W := by
  refine ⟨lt_of_block h, fun j b hj => ⟨?_, free_at h j⟩⟩
  rw [cell_at h, List.getElem?_toArray]
  unfold cellsB
  rw [List.getElem?_map, hj]; rfl
theorem RowL.less {g : Nat} {l : List UInt8} {W : World} (h : RowL g l W) (n : Nat) : RowL g (l.take n) W := by
  refine ⟨h.1, fun j b hj => h.2 j b ?_⟩
  rw [List.getElem?_take] at hj
  split at hj
  · exact hj
  · cases hj
theorem own_full {W : World} {base g n : Nat} {l : List UInt8} (h : W.ownsRow base 5 1 (.slice (some ⟨g, 0, none⟩) n n) n (cellsB l)) : RowC g l W := by
  rcases h.2 with ⟨h, _⟩ | ⟨g2, cap, cur, hv, _, hg, _, _, hc, ht⟩
  · cases h
  · cases hv
    rw [List.take_of_length_le (by rw [Array.length_toList, hc]; exact Nat.le_refl _)] at ht
    unfold RowC
    rw [hg, ← ht]
theorem cellsB_zero (n : Nat) : cellsB (List.replicate n 0) = List.replicate n (.int .u8 0) := by unfold cellsB; rw [List.map_replicate]; rfl
/-- make([]byte, n) -/
theorem wpList_make_B {w : World} {ops : Array Oper} {rest : List Oper} {o : Oper} {a : Act} {Q : Exit → Act → World → Prop} (hgd : o.guard = none) (L : Int) (hop : o.op = .makeSlice 39 (.const (.int .i64 L)) (.const (.int .i64 L))) (N : Nat) (hL : L = (N : Int)) (hN : N ≤ 1048576)
    (h : ∀ w', RowC w.heap.size (List.replicate N 0) w' → Below w.heap.size w w' → wpList Try.prog ops Q rest (a.put o.dst (.slice (some ⟨w.heap.size, 0, none⟩) N N)) w') : wpList Try.prog ops Q (o :: rest) a w := by
  obtain ⟨i0, hi, hz0, hz1, hz2⟩ := info_parts infoB
  refine wpList_make_full w hgd _ _ 39 hop w.heap.size 5 i0 (.int .u8 0) 1 Try.underlying39 hi hz0 hz1 _ _ L L N rfl rfl hL hL (by rw [hz2]; omega) (by unfold maxLen; omega) (Nat.le_refl _) ?_
  intro w' h1 h2
  refine h w' (own_full (base := w.heap.size) (n := N) ?_) ((Below.refl _ _).grown h2 (Nat.le_refl _) (fun j hj => (by cases hj)))
  rw [show (Value.int IntKind.u8 0).cells = #[.int .u8 0] from rfl, Nat.mul_one, toList_madeCells_one] at h1
  rw [cellsB_zero]
  exact h1
set_option maxRecDepth 100000 in
/-- copy of a string into it -/
theorem wpList_copy_B {w : World} {ops : Array Oper} {rest : List Oper} {o : Oper} {a : Act} {Q : Exit → Act → World → Prop} (hgd : o.guard = none) (d x : Operand) (ho : o.op = .call { callee := .builtin .copy, args := #[d, x], argTypes := #[39, 9] })
    (g n c : Nat) (hd : a.eval d = .slice (some ⟨g, 0, none⟩) n c) (s : ByteArray) (hs : a.eval x = .string s) (l : List UInt8) (R : RowC g l w) (hl : l.length = n) (hfit : s.size ≤ n)
    (h : ∀ w', RowC g (lb s ++ l.drop s.size) w' → (∀ b, b ≤ g → Below b w w') → wpList Try.prog ops Q rest (a.put o.dst (goInt s.size)) w') : wpList Try.prog ops Q (o :: rest) a w := by
  refine wpList_plain hgd fun K hK => ?_
  obtain ⟨i0, hi, _, hz1, _⟩ := info_parts infoB
  have hrun := Lib.run_copy_row_string (P := Try.prog) w 39 9 o.type 5 g 0 n c s _ _ Try.underlying39 (by rw [hi]; exact congrArg some hz1) R hfit (by rw [List.size_toArray, cellsB_len]; omega)
  have e : (((cellsB l).toArray.toList.take 0 ++ Lib.byteCells s.data.toList ++ (cellsB l).toArray.toList.drop (0 + s.size)).toArray) = (cellsB (lb s ++ l.drop s.size)).toArray := by
    congr 1
    rw [List.take_zero, List.nil_append, Nat.zero_add, cellsB_append]
    congr 1
    unfold cellsB
    rw [List.map_drop]
  rw [e] at hrun
  unfold Oper.wp
  simp [execOp, ho, resolve, invoke, builtin, hd, hs, hrun, Result.andThen]
  exact hK _ _ (h _ (setRow_heap w g _ _ _ _ R) (fun b hb => below_setRow (Below.refl _ _) hb _))
theorem xor8 (x b : UInt8) : bits .xor .u8 (x.toNat : Int) (b.toNat : Int) = ((x ^^^ b).toNat : Int) := by
  rw [u8_xor_nat x.toNat b.toNat x.toNat_lt b.toNat_lt, UInt8.toNat_xor]
theorem xor_one (x : UInt8) : x ^^^ 1 ≠ x := by
  intro h
  have := congrArg (x ^^^ ·) h
  simp only [← UInt8.xor_assoc, UInt8.xor_self, UInt8.zero_xor] at this
  cases this
theorem mod_u (c : Int) (n : Nat) (h0 : 0 < n) (h1 : n ≤ 1048576) : ∃ u : Nat, wrap64 ((IntKind.u64.wrap c).tmod (n : Int)) = (u : Int) ∧ u < n := by
  have hp : 0 ≤ IntKind.u64.wrap c := by
    simp [IntKind.wrap, IntKind.signed, IntKind.bits]
    omega
  obtain ⟨p, hp⟩ := Int.eq_ofNat_of_zero_le hp
  rw [hp, ← Int.ofNat_tmod]
  have hm := Nat.mod_lt p h0
  refine ⟨p % n, ?_, hm⟩
  unfold wrap64
  omega
set_option maxRecDepth 100000 in
set_option maxHeartbeats 16000000 in
theorem short_any (m : Hd) (c a : Int) {v : Value} {l : List Opt} (hl : l.length * 24 ≤ 140737488355328) (w : World) (hv : LstO v l w) :
    Calls Try.prog 7 #[MV m v, .int .i64 c, .int .i64 a] w (Gives (.bool true) w) := by
  have B0 := hide (box_new w m v)
  have D0 := hide (below_alloc w (.cells (cellsM m v) 26))
  have HV := hide (fun W (H : Below w.heap.size w W) => hv.step H)
  have AW := hide (fun W => awake_any W)
  have EN := hide (fun W (h : LstO v l W) => encode_any m hl W h)
  clear hv
  go_enter Try.func7, Try.ntmps7
  go_wp2_with fail
  refine (AW.out _).mono ?_
  rintro e w1 ⟨rfl, hb1⟩
  have B1 := hide (B0.out.step hb1)
  have D1 := hide (D0.out.trans (hb1.mono D0.out.size))
  clear hb1 B0 D0 AW
  go_wp2_with (refine wpList_load_box rfl (.tmp 3) rfl w.heap.size m v rfl B1.out ?_)
  refine (EN.out _ (HV.out _ D1.out)).mono ?_
  rintro e w2 ⟨rfl, hb2⟩
  have D2 := hide (D1.out.trans (hb2.mono D1.out.size))
  clear hb2 B1 D1 EN HV
  by_cases he : encE (m, l) = 0
  · rw [he]
    have HE := hide he
    obtain ⟨z1, z2⟩ := enc_size he
    have SZ := hide (show (bs (encS (m, l))).size = (encS (m, l)).length from bs_size _)
    have LB := hide (show lb (bs (encS (m, l))) = encS (m, l) from lb_bs _)
    obtain ⟨u, hu, hu2⟩ := mod_u c 240 (by decide) (by decide)
    obtain ⟨k, hk, hk2⟩ := mod_u a 4 (by decide) (by decide)
    have hu : wrap64 ((IntKind.u64.wrap c).tmod 240) = (u : Int) := hu
    have hk : wrap64 ((IntKind.u64.wrap a).tmod 4) = (k : Int) := hk
    have ck := hide (fun x y h h2 => cookie_set (k := k) (x := x) (y := y) he hk2 h h2)
    have dt := hide (fun s z (h : lb s = encS (m, l) ++ z) h2 => dec_tail he h h2)
    clear he
    generalize hE : encS (m, l) = E at *
    have hz : E.length = (bs E).size := SZ.out.symm
    generalize hee : bs E = ee at *
    have US : (u : Int) ≤ (ee.size : Int) := by omega
    have DU := hide (fun W => dec_q (dec_short (s := ee.extract 0 u) (by rw [ByteArray.size_extract]; omega)) W)
    clear hE
    rw [hz] at z1 z2
    clear hz
    go_wp2_with fail
    refine (DU.out _).mono ?_
    rintro e w3 ⟨p3, c3, rfl, hb3, _⟩
    have D3 := hide (D2.out.trans (hb3.mono D2.out.size))
    clear hb3 D2 DU
    obtain ⟨cap, w4, CV, R4, B4, hcap⟩ := conv_bytes w3 ee
    have D4 := hide (D3.out.trans (B4.mono D3.out.size))
    have hg := D3.out.size
    generalize w3.heap.size = g at *
    have ki : 236 + k < (lb ee).length := by rw [lb_len]; omega
    obtain ⟨x, hx⟩ : ∃ x, (lb ee)[236 + k]? = some x := ⟨_, List.getElem?_eq_getElem ki⟩
    obtain ⟨ka, kb⟩ := R4.2 _ x hx
    have R5 : RowL g ((lb ee).set (236 + k) (x ^^^ 1)) (w4.setCell ⟨g, 236 + k, none⟩ (.int .u8 ((x ^^^ 1).toNat : Int))) := R4.put ki _
    have KI : (236 : Int) + (k : Int) = ((236 + k : Nat) : Int) := by omega
    have KL : ((236 + k : Nat) : Int) < (ee.size : Int) := by omega
    have LE : lb ee = E := by rw [← hee, lb_bs]
    have X8 : bits .xor .u8 (x.toNat : Int) 1 = ((x ^^^ 1).toNat : Int) := xor8 x 1
    have xn := xor_one x
    rw [LE] at hx R5
    have DC := hide (fun W => dec_q (dec_cookie (s := bs (E.set (236 + k) (x ^^^ 1))) (by rw [bs_size, List.length_set, ← LE, lb_len]; omega) (by rw [bs_size, List.length_set, ← LE, lb_len]; omega) (ck.out x _ hx xn)) W)
    have CB := conv_back (cap := cap) (n := ee.size) R5 (by rw [List.length_set, ← LE, lb_len])
    have D5 := hide (D4.out.setCell (p := ⟨g, 236 + k, none⟩) hg (.int .u8 ((x ^^^ 1).toNat : Int)))
    generalize bs (E.set (236 + k) (x ^^^ 1)) = cc at *
    generalize 236 + k = i at *
    generalize x ^^^ 1 = y at *
    clear hx R4 B4 D4 ki xn
    go_wp2_with fail
    refine (DC.out _).mono ?_
    rintro e w6 ⟨p6, c6, rfl, hb6, _⟩
    have D6 := hide (D5.out.trans (hb6.mono D5.out.size))
    clear hb6 D5 DC CB ka kb CV hcap R5 X8 KI KL
    generalize (w4.setCell ⟨g, i, none⟩ (.int .u8 (y.toNat : Int))) = w5 at *
    have hz6 := D6.out.size
    obtain ⟨N, hN⟩ : ∃ N : Nat, N = 65508 := ⟨_, rfl⟩
    have NI := hide (show (65508 : Int) = (N : Int) by omega)
    have NB : N ≤ 1048576 := by omega
    have NK : (65507 : Int) ≤ (N : Int) := by omega
    have NE : ee.size ≤ N := by omega
    have LZ := hide (show (List.replicate N (0 : UInt8)).length = N from List.length_replicate)
    generalize hzl : List.replicate N (0 : UInt8) = zl at *
    have LL := hide (show (lb ee ++ zl.drop ee.size).length = N by rw [List.length_append, lb_len, List.length_drop, LZ.out]; omega)
    have DL := hide (fun W => dec_q (dec_long (s := bs (lb ee ++ zl.drop ee.size)) (by rw [bs_size, LL.out]; omega)) W)
    have DT := hide (fun W => dec_q (dt.out (bs ((lb ee ++ zl.drop ee.size).take 65507)) ((zl.drop ee.size).take (65507 - ee.size)) (by rw [lb_bs, List.take_append, List.take_of_length_le (by rw [lb_len]; omega), lb_len, LE]) (by rw [bs_size, List.length_take]; omega)) W)
    have CT := fun W (h : RowC w6.heap.size (lb ee ++ zl.drop ee.size) W) => conv_back (cap := N) (n := 65507) (h.row.less 65507) (by rw [List.length_take, LL.out]; omega)
    have CT := hide CT
    obtain ⟨LN, hLN⟩ : ∃ LN, lb ee ++ zl.drop ee.size = LN := ⟨_, rfl⟩
    rw [hLN] at LL DL DT CT
    have LNE := hide hLN
    clear hLN
    clear hN
    go_wp2_with (first | (refine wpList_make_B rfl 65508 rfl N NI.out NB ?_; intro w7 r7 b7; rw [hzl] at r7; have R7 := hide r7; have D7 := hide (D6.out.trans (b7.mono D6.out.size)); clear r7 b7 D6) | (refine wpList_copy_B rfl (.tmp 59) (.tmp 60) rfl w6.heap.size N N rfl ee rfl zl R7.out LZ.out NE ?_; intro w8 r8 b8; rw [LNE.out] at r8; have R8 := hide r8; have D8 := hide (D7.out.trans (b8 _ hz6)); have CL := conv_back (cap := N) r8.row LL.out; clear r8 b8 R7 D7))
    refine (DL.out _).mono ?_
    rintro e w9 ⟨p9, c9, rfl, hb9, _⟩
    have D9 := hide (D8.out.trans (hb9.mono D8.out.size))
    have CT9 := CT.out _ (R8.out.step hb9)
    clear hb9 D8 DL CL R8 CT
    go_wp2_with fail
    refine (DT.out _).mono ?_
    rintro e wa ⟨pa, ca, rfl, hba, _⟩
    have Da := hide (D9.out.trans (hba.mono D9.out.size))
    have NA := hide (box_new wa zeroH (.slice none 0 0))
    have KA := hide (below_alloc wa (.cells (cellsM zeroH (.slice none 0 0)) 26))
    clear hba D9 DT CT9
    go_wp2_with (refine wpList_store_box rfl (.tmp 12) (.tmp 73) rfl wa.heap.size _ m _ (.slice pa l.length ca) rfl rfl rfl NA.out ?_; intro wb gb bb zb; have Db := hide (Da.out.trans ((KA.out.trans (bb _ (Nat.le_refl _))).mono Da.out.size)); clear gb bb zb NA KA Da)
    go_ret
    exact ⟨rfl, Db.out⟩
  · have Q : ¬ ((encE (m, l) : Nat) : Int) = 0 := by omega
    generalize encE (m, l) = n at *
    clear he
    go_wp2
    go_ret
    exact ⟨rfl, D2.out⟩
end Go.Proofs.Ytmoklodaeicpgaa
