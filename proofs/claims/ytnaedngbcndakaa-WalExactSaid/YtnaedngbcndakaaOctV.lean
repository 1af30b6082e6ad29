/-
  Contracts of octet's and tenancyref04's calls on numbers of 32 bits and of Cut. Conditions: a number is one of its type; a string is no longer than an int; an int is an int of 64 bits.
-/
import Derived.Test.YtnaedngbcndakaaFilB
import Derived.Test.YtnaedngbcndakaaAddrP
import Derived.Test.YtnaedngbcndakaaOctM
import Derived.Laws.Externs
import Derived.Lib.Slices
import Derived.Lib.Small
import Derived.Lib.Walk
import Derived.Lib.BitFns
import Derived.Lib.SmallJoins
import Derived.Deep.AppendLies
import Derived.ArgAppend
import Derived.Laws.OwnMore
namespace Go.Proofs.Ytnaedngbcndakaa
open Go.RowKit Go.Joins

/-- a call with this one result, nothing old changed -/
def Gives (v : Value) (w : World) (e : Ending) (w' : World) : Prop := e = .returned v ∧ Below w.heap.size w w'
theorem tup3 {x x' y y' z z' : Value} (h : x = x') (k : y = y') (l : z = z') : Value.tuple #[x, y, z] = .tuple #[x', y', z'] := by rw [h, k, l]
theorem bcell {W w1 : World} (hb : Below W.heap.size W w1) : (∀ b o, b < W.heap.size → w1.cell? ⟨b, o, none⟩ = W.cell? ⟨b, o, none⟩) ∧ (∀ b o, b < W.heap.size → w1.frozen? ⟨b, o, none⟩ = W.frozen? ⟨b, o, none⟩) :=
  ⟨fun b o h => hb.cell (p := ⟨b, o, none⟩) h, fun b o h => hb.frozen (p := ⟨b, o, none⟩) h⟩
theorem keep_cell {W w2 : World} {p : Go.Addr} {v : Value} (hb : Below W.heap.size W w2) (h : W.cell? p = some v) : w2.cell? p = some v := by
  rw [hb.cell (World.block_lt_of_cell? W p h), h]
theorem keep_free {W w2 : World} {p : Go.Addr} (hb : Below W.heap.size W w2) (hl : p.block < W.heap.size) (h : W.frozen? p = false) : w2.frozen? p = false := by
  rw [hb.frozen hl, h]
theorem below_alloc (W : World) (o : Obj) : Below W.heap.size W (W.alloc o) := (Below.refl _ _).alloc (Nat.le_refl _) _
theorem below_drew (W : World) : Below W.heap.size W W.drew := (Below.refl _ _).drew
theorem below_drewN (W : World) (n : Nat) : Below W.heap.size W (W.drewN n) := ⟨rfl, rfl, rfl, Nat.le_refl _, fun _ _ => rfl⟩
theorem chain {w v v' : World} (h : Below w.heap.size w v) (k : Below v.heap.size v v') : Below w.heap.size w v' := h.trans (k.mono h.size)
theorem st_eq {a b : List UInt8} (h : a = b) : St a = St b := by rw [h]
theorem conv_own {w : World} {base g n cap : Nat} {l : List UInt8} (h : w.ownsRow base 5 1 (.slice (some ⟨g, 0, none⟩) n cap) n (l.map byteV)) :
    (convert 56 9 (.slice (some ⟨g, 0, none⟩) n cap)).run Try.prog w = .ok (St l) w := by
  have hl : n = l.length := by have := h.1; simp at this; omega
  subst hl
  refine run_convert_bytes_back (P := Try.prog) w 56 9 5 ⟨g, 0, none⟩ cap l Try.underlying56 Try.underlying5 Try.underlying9 (fun j hj => ?_)
  have := h.cellAt j (by omega)
  have ha : (⟨g, 0, none⟩ : Go.Addr).add j = ⟨g, j, none⟩ := by cases j <;> simp [Addr.add]
  rw [ha, this, List.getElem?_map, List.getElem?_eq_getElem hj]
  rfl
theorem tab_at (i : Int) (h0 : 0 ≤ i) (h1 : i ≤ 255) (W : World) : (Instr.index 9 (.string Lib.len8tab) (.int .u8 i)).run Try.prog W = .ok (.int .u8 (Lib.len8 i)) W :=
  Lib.run_index_len8tab W _ _ i Try.underlying9 h0 h1
theorem len_close {x i K : Int} (k : Nat) (hK : K = (k : Int)) (hk : 2 ^ k ≤ x.toNat) (hx : x.toNat < 2 ^ 64) (hi' : i.toNat = x.toNat / 2 ^ k) (h0 : 0 ≤ i) (h1 : i ≤ 255) (h2 : k ≤ 64) :
    wrap64 (K + wrap64 (Lib.len8 i)) = (Lib.bitLen x.toNat : Int) := by
  have e := Lib.bitLen_shift k x.toNat hk hx
  have l := Lib.bitLen_le8' i h0 h1
  rw [Lib.len8_of i h0 h1, hK, e, ← hi']
  rw [IntWalk.wrap64_in (Lib.bitLen i.toNat : Int) ⟨by omega, by omega⟩, IntWalk.wrap64_in _ ⟨by omega, by omega⟩]
  omega
theorem len_close0 {x : Int} (h0 : 0 ≤ x) (h1 : x ≤ 255) : wrap64 (wrap64 (Lib.len8 x)) = (Lib.bitLen x.toNat : Int) := by
  have l := Lib.bitLen_le8' x h0 h1
  rw [Lib.len8_of x h0 h1]
  rw [IntWalk.wrap64_in (Lib.bitLen x.toNat : Int) ⟨by omega, by omega⟩, IntWalk.wrap64_in _ ⟨by omega, by omega⟩]
set_option maxHeartbeats 4000000 in
set_option maxRecDepth 100000 in
theorem len64_any (x : Int) (w : World) (h0 : 0 ≤ x) (h1 : x ≤ 18446744073709551615) :
    Calls Try.prog 76 #[.int .u64 x] w fun e w' => e = .returned (.int .i64 (Lib.bitLen x.toNat)) ∧ w = w' := by
  have f0 := fun W (h : x < 256) => tab_at x h0 (by omega) W
  have f1 := fun W (h : x < 65536) => tab_at (x / 256) (by omega) (by omega) W
  have f2 := fun W (h : x / 65536 < 256) => tab_at (x / 65536) (by omega) (by omega) W
  have f3 := fun W (h : x < 4294967296) => tab_at (x / 65536 / 256) (by omega) (by omega) W
  have f4 := fun W (h : x / 4294967296 < 256) => tab_at (x / 4294967296) (by omega) (by omega) W
  have f5 := fun W (h : x / 4294967296 < 65536) => tab_at (x / 4294967296 / 256) (by omega) (by omega) W
  have f6 := fun W (h : x / 4294967296 / 65536 < 256) => tab_at (x / 4294967296 / 65536) (by omega) (by omega) W
  have f7 := tab_at (x / 4294967296 / 65536 / 256) (by omega) (by omega)
  go_enter Try.func76, Try.ntmps76
  go_wp2
  all_goals (go_ret; refine ⟨congrArg Ending.returned (congrArg (Value.int IntKind.i64) ?_), rfl⟩)
  all_goals clear f0 f1 f2 f3 f4 f5 f6 f7
  · exact len_close 56 rfl (by omega) (by omega) (by omega) (by omega) (by omega) (by omega)
  · exact len_close 48 rfl (by omega) (by omega) (by omega) (by omega) (by omega) (by omega)
  · exact len_close 40 rfl (by omega) (by omega) (by omega) (by omega) (by omega) (by omega)
  · exact len_close 32 rfl (by omega) (by omega) (by omega) (by omega) (by omega) (by omega)
  · exact len_close 24 rfl (by omega) (by omega) (by omega) (by omega) (by omega) (by omega)
  · exact len_close 16 rfl (by omega) (by omega) (by omega) (by omega) (by omega) (by omega)
  · exact len_close 8 rfl (by omega) (by omega) (by omega) (by omega) (by omega) (by omega)
  · exact len_close0 (by omega) (by omega)
theorem bitLen32 : Lib.bitLen (4294967295 : Int).toNat = 32 := by decide +kernel
set_option maxRecDepth 100000 in
theorem size32_any (w : World) : Calls Try.prog 70 #[] w (Same (.int .i64 4) w) := by
  have L := hide (len64_any 4294967295 w (by omega) (by omega))
  rw [bitLen32] at L
  go_enter Try.func70, Try.ntmps70
  go_wp2_with fail
  refine L.out.mono ?_
  rintro e w' ⟨rfl, rfl⟩
  go_wp2
  go_ret
  exact ⟨rfl, rfl⟩
set_option maxRecDepth 100000 in
theorem ocut_any (s : ByteArray) (hs : s.size ≤ maxLen) {a n : Int} (ha : I64 a) (hn : I64 n) (w : World) :
    Calls Try.prog 73 #[.string s, .int .i64 a, .int .i64 n] w (Same (.tuple #[.string (cutV s a n), .bool (cutO s a n)]) w) := by
  unfold maxLen at hs
  obtain ⟨ha1, ha2⟩ := ha
  obtain ⟨hn1, hn2⟩ := hn
  by_cases h : 0 ≤ a ∧ 0 ≤ n ∧ n ≤ (s.size : Int) - a
  · obtain ⟨h1, h2, h3⟩ := h
    have K := hide (show cutO s a n = true by unfold cutO; simpa using ⟨h1, h2, h3⟩)
    have V := hide (cut_yes K.out)
    have E := hide (show s.extract a.toNat (a + n).toNat = sub s a.toNat n.toNat by unfold sub; rw [show (a + n).toNat = a.toNat + n.toNat by omega])
    have h4 : ¬ a < 0 := by omega
    have h5 : ¬ n < 0 := by omega
    have h6 : ¬ (s.size : Int) - a < n := by omega
    have h7 : a ≤ (s.size : Int) := by omega
    have h8 : a + n ≤ (s.size : Int) := by omega
    go_enter Try.func73, Try.ntmps73
    go_wp2
    go_ret2
    refine ⟨congrArg Ending.returned (tup2 ?_ (bool_eq K.out.symm)), rfl⟩
    rw [V.out, ← E.out]; rfl
  · have K := hide (show cutO s a n = false by unfold cutO; simpa using h)
    have V := hide (cut_no K.out)
    by_cases h1 : a < 0
    · clear h
      go_enter Try.func73, Try.ntmps73
      go_wp2
      go_ret2
      exact ⟨congrArg Ending.returned (tup2 (by rw [V.out]; rfl) (bool_eq K.out.symm)), rfl⟩
    by_cases h2 : n < 0
    · clear h
      go_enter Try.func73, Try.ntmps73
      go_wp2
      go_ret2
      exact ⟨congrArg Ending.returned (tup2 (by rw [V.out]; rfl) (bool_eq K.out.symm)), rfl⟩
    · have h3 : (s.size : Int) - a < n := by omega
      clear h
      go_enter Try.func73, Try.ntmps73
      go_wp2
      go_ret2
      exact ⟨congrArg Ending.returned (tup2 (by rw [V.out]; rfl) (bool_eq K.out.symm)), rfl⟩
theorem set_prev {k : Nat} {tl : List UInt8} {b : UInt8} : ((List.replicate (k + 1) 0 ++ tl).map byteV).set k (byteV b) = (List.replicate k 0 ++ b :: tl).map byteV := by
  rw [← List.map_set]
  congr 1
  rw [List.replicate_succ', List.append_assoc, List.set_append_right _ _ (by simp)]
  simp
theorem byte_of {m : Nat} : Value.int .u8 ((m : Int) % 256) = byteV (UInt8.ofNat (m % 256)) := by
  unfold byteV
  rw [byte_toNat]
  congr 1
theorem base_le {w : World} {base g n cap size : Nat} {e : TypeId} {xs : List Value} (h : w.ownsRow base e size (.slice (some ⟨g, 0, none⟩) n cap) n xs) : base ≤ g := by
  rcases h.2 with ⟨h, _⟩ | ⟨g', cap', cur, h, hb, _⟩
  · cases h
  · cases h; exact hb
theorem take_snoc (s : ByteArray) (k : Nat) (h : k < s.size) : s.data.toList.take (k + 1) = s.data.toList.take k ++ [s[k]] := by
  rw [List.take_succ_eq_append_getElem (by simpa using h)]; rfl
theorem or_byte {m b : Nat} (hb : b < 256) : m * 256 ||| b = m * 256 + b := or_add (k := 8) ⟨m, Nat.mul_comm _ _⟩ hb
theorem next32 {m b : Nat} (hm : m * 256 + b < 4294967296) (hb : b < 256) : bits .or .u32 ((m : Int) * 256) (b : Int) = ((m * 256 + b : Nat) : Int) := by
  have h1 : m * 256 < 4294967296 := Nat.lt_of_le_of_lt (Nat.le_add_right _ _) hm
  have h2 : b < 4294967296 := Nat.lt_of_le_of_lt (Nat.le_add_left _ _) hm
  have h3 : (m : Int) * 256 = ((m * 256 : Nat) : Int) := by omega
  rw [h3, u32_or_nat (m * 256) b h1 h2, or_byte hb]
set_option maxRecDepth 100000 in
set_option maxHeartbeats 1000000 in
theorem put32_gen (x : Nat) (hx : x < 4294967296) (w : World) :
    Calls Try.prog 60 #[.int .u32 (x : Int)] w (Gives (St (beL 4 x)) w) := by
  obtain ⟨i0, hi, hz0, hz1, hz2⟩ := info_parts infoB
  go_enter Try.func60, Try.ntmps60
  go_wp2_with fail
  refine (size32_any w).mono ?_
  rintro e w' ⟨rfl, rfl⟩
  go_wp2_with (at_make; refine wpList_make_full _ rfl _ _ 56 rfl w.heap.size 5 i0 (.int .u8 0) 1 Try.underlying56 hi hz0 hz1 _ _ _ _ 4 rfl rfl (by omega) (by omega) ?b2 ?b3 (Nat.le_refl _) ?_)
  case b2 => rw [hz2]; omega
  case b3 => unfold maxLen; omega
  intro w0 hown0 hgrow0
  go_wp2_with fail
  go_loopw [0, 4] (fun v i wr => ∃ k m : Nat, k ≤ 4 ∧ i = .int .i64 ((k : Int) - 1) ∧ v = .int .u32 (m : Int) ∧ m < 4294967296 ∧ Hid (m = x / 256 ^ (4 - k)) ∧
      wr.ownsRow w.heap.size 5 1 (.slice (some ⟨w.heap.size, 0, none⟩) 4 4) 4 ((List.replicate k 0 ++ beL (4 - k) x).map byteV) ∧ Below w.heap.size w wr) (fun _ i _ => (intOf i + 1).toNat)
  case atStart =>
    refine ⟨4, x, Nat.le_refl _, rfl, rfl, hx, hide (by simp), ?_, (Below.refl _ _).grown hgrow0 (Nat.le_refl _) (fun k h => by cases h)⟩
    have e : (madeCells (Value.int .u8 0).cells (4 * 1)).toList = (List.replicate 4 (0 : UInt8) ++ beL (4 - 4) x).map byteV := by
      show (madeCells #[Value.int .u8 0] (4 * 1)).toList = _
      rw [toList_madeCells_one]
      simp [byteV, beL]
    rw [← e]; exact hown0
  case round =>
    obtain ⟨k, m, hk, rfl, rfl, hm, E, hown, hb⟩ := hrel
    by_cases h0 : k = 0
    · subst h0
      have CV := conv_own hown
      rw [List.replicate_zero, List.nil_append] at CV
      clear hown
      go_wp2
      go_ret
      exact ⟨rfl, hb⟩
    · obtain ⟨j, hj⟩ : ∃ j, k = j + 1 := ⟨k - 1, by omega⟩
      subst hj
      have J1 : ((j + 1 : Nat) : Int) - 1 = (j : Int) := by omega
      rw [J1]
      clear J1 h0
      have FZ := hown.frozenAt j
      have CZ := hown.cellAt j (by omega)
      rw [List.getElem?_map, List.getElem?_append_left (by simp), List.getElem?_replicate, if_pos (by omega)] at CZ
      have hown2 := (hown.stored j (byteV (UInt8.ofNat (m % 256)))).1
      have O := hide hown2
      rw [set_prev, E.out, show UInt8.ofNat (x / 256 ^ (4 - (j + 1)) % 256) :: beL (4 - (j + 1)) x = beL (4 - j) x by rw [show 4 - j = (4 - (j + 1)) + 1 by omega]; rfl, ← E.out] at O
      have F := hide (show m / 256 = x / 256 ^ (4 - j) by rw [E.out, Nat.div_div_eq_div_mul, ← Nat.pow_succ]; congr 2; omega)
      clear hown2
      go_wp2
      go_roundw
      case rel =>
        refine ⟨j, m / 256, by omega, by go_num, by go_num, by omega, F, ?_, ?_⟩
        · rw [byte_of]; exact O.out
        · exact hb.setCell (by dsimp only; omega) _
      case measure => simp [intOf] <;> omega
set_option maxRecDepth 100000 in
set_option maxHeartbeats 1000000 in
theorem get32_gen (s : ByteArray) (hs : s.size ≤ maxLen) {a : Int} (ha : I64 a) (w : World) :
    Calls Try.prog 77 #[.string s, .int .i64 a] w (Same (.tuple #[.int .u32 (getV 4 s a : Nat), .bool (cutO s a 4)]) w) := by
  have C := hide (ocut_any s hs ha (show I64 4 by show _ ∧ _; omega) w)
  have L := cut_size_le (S := 4) (s := s) (a := a)
  have R := hide (show getV 4 s a = beV (cutV s a (4 : Nat)).data.toList from rfl)
  rw [show ((4 : Nat) : Int) = 4 from rfl] at R L
  generalize cutV s a 4 = p at C L R
  generalize cutO s a 4 = o at C
  go_enter Try.func77, Try.ntmps77
  go_wp2_with fail
  refine (size32_any w).mono ?_
  rintro e w' ⟨rfl, rfl⟩
  go_wp2_with fail
  refine C.out.mono ?_
  rintro e w' ⟨rfl, rfl⟩
  go_wp2_with fail
  go_loop [8, 20] (fun v i => ∃ k m : Nat, k ≤ p.size ∧ i = .int .i64 (k : Int) ∧ v = .int .u32 (m : Int) ∧ Hid (m = beV (p.data.toList.take k))) (fun _ i => p.size - (intOf i).toNat)
  case atStart => exact ⟨0, 0, Nat.zero_le _, rfl, rfl, hide rfl⟩
  case round =>
    obtain ⟨k, m, hk, rfl, rfl, E⟩ := hrel
    by_cases hlt : k < p.size
    · have F := hide (show m * 256 + p[k].toNat = beV (p.data.toList.take (k + 1)) by rw [take_snoc p k hlt, beV_snoc, E.out])
      have hb := p[k].toNat_lt
      have hm : m * 256 + p[k].toNat < 4294967296 := by
        rw [F.out]
        refine Nat.lt_of_lt_of_le (beV_lt _) ?_
        refine Nat.le_trans (Nat.pow_le_pow_right (by omega) (show (p.data.toList.take (k + 1)).length ≤ 4 by rw [List.length_take]; omega)) (by omega)
      have NX := hide (next32 hm (by omega))
      clear hb
      go_wp2
      go_round
      case rel => exact ⟨k + 1, m * 256 + p[k].toNat, by omega, by go_num, by rw [NX.out], F⟩
      case measure => simp [intOf] <;> omega
    · have E2 := hide (show m = getV 4 s a by rw [R.out, E.out, List.take_of_length_le (by simp; omega)])
      go_wp2
      go_ret2
      exact ⟨congrArg Ending.returned (tup2 (by rw [← E2.out]; rfl) rfl), rfl⟩
theorem cat2 (l1 l2 : List UInt8) : (ByteArray.mk l1.toArray ++ ByteArray.mk l2.toArray) = ⟨(l1 ++ l2).toArray⟩ := by
  apply ByteArray.ext
  simp [ByteArray.data_append]
theorem cat1 (l : List UInt8) (s : ByteArray) : (ByteArray.mk l.toArray ++ s) = ⟨(l ++ s.data.toList).toArray⟩ := by
  apply ByteArray.ext
  simp [ByteArray.data_append]
theorem catR (s : ByteArray) (l : List UInt8) : (s ++ ByteArray.mk l.toArray) = ⟨(s.data.toList ++ l).toArray⟩ := by
  apply ByteArray.ext
  simp [ByteArray.data_append]
set_option maxRecDepth 100000 in
theorem put32_any (x : Nat) (hx : x < 4294967296) (w : World) : Calls Try.prog 38 #[.int .u32 (x : Int)] w (Gives (St (beL 4 x)) w) := by
  have P := hide (fun W => put32_gen x hx W)
  go_enter Try.func38, Try.ntmps38
  go_wp2_with fail
  refine (P.out _).mono ?_
  rintro e w' ⟨rfl, hb⟩
  go_wp2
  go_ret
  exact ⟨rfl, hb⟩
set_option maxRecDepth 100000 in
theorem get32_any (s : ByteArray) (hs : s.size ≤ maxLen) {a : Int} (ha : I64 a) (w : World) : Calls Try.prog 71 #[.string s, .int .i64 a] w (Same (.tuple #[.int .u32 (getV 4 s a : Nat), .bool (cutO s a 4)]) w) := by
  have P := hide (fun W => get32_gen s hs ha W)
  have G := getV_lt 4 s a
  generalize getV 4 s a = v at *
  generalize cutO s a 4 = o at *
  go_enter Try.func71, Try.ntmps71
  go_wp2_with fail
  refine (P.out _).mono ?_
  rintro e w' ⟨rfl, rfl⟩
  go_wp2
  go_ret2
  exact ⟨congrArg Ending.returned (tup2 rfl rfl), rfl⟩
set_option maxRecDepth 100000 in
theorem cut_ref (s : ByteArray) (hs : s.size ≤ maxLen) {a n : Int} (ha : I64 a) (hn : I64 n) (w : World) :
    Calls Try.prog 66 #[.string s, .int .i64 a, .int .i64 n] w (Same (.tuple #[.string (cutV s a n), .bool (cutO s a n)]) w) := by
  unfold maxLen at hs
  obtain ⟨ha1, ha2⟩ := ha
  obtain ⟨hn1, hn2⟩ := hn
  by_cases h : 0 ≤ a ∧ 0 ≤ n ∧ n ≤ (s.size : Int) - a
  · obtain ⟨h1, h2, h3⟩ := h
    have K := hide (show cutO s a n = true by unfold cutO; simpa using ⟨h1, h2, h3⟩)
    have V := hide (cut_yes K.out)
    have E := hide (show s.extract a.toNat (a + n).toNat = sub s a.toNat n.toNat by unfold sub; rw [show (a + n).toNat = a.toNat + n.toNat by omega])
    have h4 : ¬ a < 0 := by omega
    have h5 : ¬ n < 0 := by omega
    have h6 : ¬ (s.size : Int) - a < n := by omega
    have h7 : ¬ (s.size : Int) < a := by omega
    have h8 : a + n ≤ (s.size : Int) := by omega
    go_enter Try.func66, Try.ntmps66
    go_wp2
    go_ret2
    refine ⟨congrArg Ending.returned (tup2 ?_ (bool_eq K.out.symm)), rfl⟩
    rw [V.out, ← E.out]; rfl
  · have K := hide (show cutO s a n = false by unfold cutO; simpa using h)
    have V := hide (cut_no K.out)
    by_cases h1 : a < 0
    · clear h
      go_enter Try.func66, Try.ntmps66
      go_wp2
      go_ret2
      exact ⟨congrArg Ending.returned (tup2 (by rw [V.out]; rfl) (bool_eq K.out.symm)), rfl⟩
    by_cases h2 : n < 0
    · clear h
      go_enter Try.func66, Try.ntmps66
      go_wp2
      go_ret2
      exact ⟨congrArg Ending.returned (tup2 (by rw [V.out]; rfl) (bool_eq K.out.symm)), rfl⟩
    by_cases h4 : (s.size : Int) < a
    · clear h
      go_enter Try.func66, Try.ntmps66
      go_wp2
      go_ret2
      exact ⟨congrArg Ending.returned (tup2 (by rw [V.out]; rfl) (bool_eq K.out.symm)), rfl⟩
    · have h3 : (s.size : Int) - a < n := by omega
      clear h
      go_enter Try.func66, Try.ntmps66
      go_wp2
      go_ret2
      exact ⟨congrArg Ending.returned (tup2 (by rw [V.out]; rfl) (bool_eq K.out.symm)), rfl⟩
theorem shr_nat (x j : Nat) : ((x : Int) / 2 ^ (8 * j)) = ((x / 256 ^ j : Nat) : Int) := by
  rw [cast_div, Nat.pow_mul]
theorem one_cell (b : UInt8) : ∀ u ∈ [byteV b], u.oneCell' = true := by
  intro u hu
  rw [List.mem_singleton.1 hu]
  rfl
theorem one_at (W : World) (b : UInt8) (t : TypeId) : ∀ j u, [byteV b][j]? = some u → (W.alloc (.cells #[byteV b] t)).cell? ((⟨W.heap.size, 0, none⟩ : Go.Addr).add j) = some u := by
  intro j u hj
  match j, hj with
  | 0, hj => simp at hj; subst hj; simp [Addr.add, go_sem]
  | j + 1, hj => simp at hj
set_option maxRecDepth 100000 in
set_option maxHeartbeats 1000000 in
theorem put_gref (x : Nat) (N : Nat) (hN : N ≤ 8) (w : World) :
    Calls Try.prog 62 #[.int .u64 (x : Int), .int .i64 (N : Int)] w (Gives (St (beL N x)) w) := by
  obtain ⟨i0, hi, hz0, hz1, hz2⟩ := info_parts infoB
  have O0 := World.ownsRow_lit (base := w.heap.size) (e := 5) (size := 1) w #[] 0 (Nat.le_refl _) (by omega) rfl
  go_enter Try.func62, Try.ntmps62
  go_wp2_with fail
  go_loopw [5, 6] (fun v i wr => ∃ (k n g cap : Nat) (l : List UInt8), k ≤ N ∧ i = .int .i64 ((k : Int) - 1) ∧ v = .slice (some ⟨g, 0, none⟩) n cap ∧ n ≤ N ∧ Hid (n + k = N) ∧ Hid (beL N x = l ++ beL k x) ∧
      wr.ownsRow w.heap.size 5 1 (.slice (some ⟨g, 0, none⟩) n cap) n (l.map byteV) ∧ Below w.heap.size w wr) (fun _ i _ => (intOf i + 1).toNat)
  case atStart => exact ⟨N, 0, w.heap.size, 0, [], Nat.le_refl _, rfl, rfl, Nat.zero_le _, hide (by simp), hide rfl, O0, below_alloc _ _⟩
  case round =>
    obtain ⟨k, n, g, cap, l, hk, rfl, rfl, hn, NK, E, hown, hb⟩ := hrel
    clear O0
    by_cases h0 : k = 0
    · subst h0
      have CV := conv_own hown
      have E2 := hide (show beL N x = l by rw [E.out]; simp [beL])
      clear hown
      go_wp2
      go_ret
      exact ⟨congrArg Ending.returned (st_eq E2.out.symm), hb⟩
    · obtain ⟨j, hj⟩ : ∃ j, k = j + 1 := ⟨k - 1, by omega⟩
      subst hj
      have J1 : ((j + 1 : Nat) : Int) - 1 = (j : Int) := by omega
      rw [J1]
      clear J1 h0
      have S := shr_nat x j
      have SB : (((x / 256 ^ j : Nat) : Int) % 256) = ((UInt8.ofNat (x / 256 ^ j % 256)).toNat : Int) := by rw [byte_toNat]; omega
      have E2 := hide (show beL N x = (l ++ [UInt8.ofNat (x / 256 ^ j % 256)]) ++ beL j x by rw [E.out, List.append_assoc]; rfl)
      generalize x / 256 ^ j = m at *
      generalize UInt8.ofNat (m % 256) = b at *
      have T1 : (8 * (j : Int)).toNat = 8 * j := by omega
      have J7 : (j : Int) ≤ 7 := by omega
      have J8 : (j : Int) < 8 := by omega
      have J9 : 8 * (j : Int) < 64 := by omega
      have J0 : (0 : Int) ≤ 8 * (j : Int) := by omega
      have hA := hown.alloc (.cells #[.int .u8 (b.toNat : Int)] 5)
      have HB := hb.alloc hb.size (.cells #[.int .u8 (b.toNat : Int)] 5)
      have hbz := base_le hown
      go_wp2_with (at_builtin; refine wpList_append_lies _ rfl (.tmp 14) (.tmp 21) 56 rfl w.heap.size 5 i0 (.int .u8 0) 1 1 Try.underlying56 hi hz0 hz1 hz2 rfl (by decide) _ _ _ rfl hA ⟨wr.heap.size, 0, none⟩ 1 1 [byteV b] rfl rfl (one_at wr b 5) (one_cell b) (by omega) (by unfold maxLen; omega) (by omega) HB.size _ rfl ?_; intro g2 cap2 w2 hown2 hgrow2 _ _)
      have HB2 := HB.grown hgrow2 (by simp; have := hb.size; omega) (fun j hj => by cases hj; exact hbz)
      go_wp2
      go_roundw
      case rel =>
        refine ⟨j, n + 1, g2, cap2, l ++ [b], by omega, by go_num, rfl, by have := NK.out; omega, hide (by have := NK.out; omega), E2, ?_, HB2⟩
        rw [List.map_append]; exact hown2
      case measure => simp [intOf] <;> omega
theorem next_ref {m b : Nat} (hm : m * 256 + b < 18446744073709551616) : IntKind.u64.wrap (IntKind.u64.wrap ((m : Int) * 256) + (b : Int)) = ((m * 256 + b : Nat) : Int) := by
  rw [IntKind.wrap_u64, IntKind.wrap_u64]; omega
set_option maxRecDepth 100000 in
set_option maxHeartbeats 1000000 in
theorem get_gref (s : ByteArray) (hs : s.size ≤ maxLen) {a : Int} (ha : I64 a) (N : Nat) (hN : N ≤ 8) (w : World) :
    Calls Try.prog 74 #[.string s, .int .i64 a, .int .i64 (N : Int)] w (Same (.tuple #[.int .u64 (getV N s a : Nat), .bool (cutO s a N)]) w) := by
  have C := hide (cut_ref s hs ha (show I64 N by show _ ∧ _; omega) w)
  have L := cut_size_le (S := N) (s := s) (a := a)
  have R := hide (show getV N s a = beV (cutV s a (N : Nat)).data.toList from rfl)
  generalize cutV s a (N : Int) = p at C L R
  generalize cutO s a (N : Int) = o at C
  go_enter Try.func74, Try.ntmps74
  go_wp2_with fail
  refine C.out.mono ?_
  rintro e w' ⟨rfl, rfl⟩
  go_wp2_with fail
  go_loop [10, 11] (fun v i => ∃ k m : Nat, k ≤ p.size ∧ i = .int .i64 (k : Int) ∧ v = .int .u64 (m : Int) ∧ Hid (m = beV (p.data.toList.take k))) (fun _ i => p.size - (intOf i).toNat)
  case atStart => exact ⟨0, 0, Nat.zero_le _, rfl, rfl, hide rfl⟩
  case round =>
    obtain ⟨k, m, hk, rfl, rfl, E⟩ := hrel
    by_cases hlt : k < p.size
    · have F := hide (show m * 256 + p[k].toNat = beV (p.data.toList.take (k + 1)) by rw [take_snoc p k hlt, beV_snoc, E.out])
      have hm : m * 256 + p[k].toNat < 18446744073709551616 := by
        rw [F.out]
        refine Nat.lt_of_lt_of_le (beV_lt _) ?_
        refine Nat.le_trans (Nat.pow_le_pow_right (n := 256) (by omega) (show (p.data.toList.take (k + 1)).length ≤ 8 by rw [List.length_take]; omega)) (by omega)
      have hmm : (m : Int) * 256 + (p[k].toNat : Int) < 18446744073709551616 := by omega
      go_wp2
      go_round
      case rel => exact ⟨k + 1, m * 256 + p[k].toNat, by omega, by go_num, by first | rfl | go_num, F⟩
      case measure => simp [intOf]; omega
    · have E2 := hide (show m = getV N s a by rw [R.out, E.out, List.take_of_length_le (by simp; omega)])
      go_wp2
      go_ret2
      exact ⟨congrArg Ending.returned (tup2 (by rw [← E2.out]; rfl) rfl), rfl⟩
set_option maxRecDepth 100000 in
theorem put32_ref (x : Nat) (hx : x < 4294967296) (w : World) : Calls Try.prog 40 #[.int .u32 (x : Int)] w (Gives (St (beL 4 x)) w) := by
  have P := hide (fun W => put_gref x 4 (by omega) W)
  have hx2 : (x : Int) < 4294967296 := by omega
  go_enter Try.func40, Try.ntmps40
  go_wp2_with fail
  refine (P.out _).mono ?_
  rintro e w' ⟨rfl, hb⟩
  go_wp2
  go_ret
  exact ⟨rfl, hb⟩
set_option maxRecDepth 100000 in
theorem get32_ref (s : ByteArray) (hs : s.size ≤ maxLen) {a : Int} (ha : I64 a) (w : World) : Calls Try.prog 65 #[.string s, .int .i64 a] w (Same (.tuple #[.int .u32 (getV 4 s a : Nat), .bool (cutO s a 4)]) w) := by
  have P := hide (fun W => get_gref s hs ha 4 (by omega) W)
  have G := getV_lt 4 s a
  rw [show ((4 : Nat) : Int) = 4 from rfl] at P
  generalize getV 4 s a = v at *
  generalize cutO s a 4 = o at *
  have W1 : IntKind.u32.wrap (v : Int) = (v : Int) := by rw [IntKind.wrap_u32]; omega
  have W2 : (v : Int) % 4294967296 = (v : Int) := by omega
  clear G
  go_enter Try.func65, Try.ntmps65
  go_wp2_with fail
  refine (P.out _).mono ?_
  rintro e w' ⟨rfl, rfl⟩
  go_wp2
  go_ret2
  exact ⟨rfl, rfl⟩
end Go.Proofs.Ytnaedngbcndakaa
