/-
  Contract of Unhex: the bytes that a text of digits is of. Condition: the text is shorter than 2^32 - 15 bytes.
-/
import Derived.Test.YtmapcllmiomelaaDoorTextH
namespace Go.Proofs.YtmapcllmiomelaaDoor
open Go.RowKit Go.Joins

/-- where a byte stands among the digits, -1: nowhere -/
def hx (b : UInt8) : Int := Lib.indexByte digs.data.toList b
theorem hx_fin : ∀ i : Fin 256, -1 ≤ hx (UInt8.ofNat i.val) ∧ hx (UInt8.ofNat i.val) < 16 ∧ (0 ≤ hx (UInt8.ofNat i.val) → hexd (hx (UInt8.ofNat i.val)).toNat = UInt8.ofNat i.val) := by decide +kernel
theorem hx_all (b : UInt8) : -1 ≤ hx b ∧ hx b < 16 ∧ (0 ≤ hx b → hexd (hx b).toNat = b) := by
  have := hx_fin ⟨b.toNat, b.toNat_lt⟩
  simpa using this
def unhexL : List UInt8 → Option (List UInt8)
  | [] => some []
  | [_] => none
  | a :: b :: r => if 0 ≤ hx a ∧ 0 ≤ hx b then (unhexL r).map (UInt8.ofNat ((hx a).toNat * 16 + (hx b).toNat) :: ·) else none
def unV (l : List UInt8) : List UInt8 := match unhexL l with | some r => r | none => []
def unO (l : List UInt8) : Bool := (unhexL l).isSome
theorem un_none {l : List UInt8} (h : unhexL l = none) : unV l = [] ∧ unO l = false := by unfold unV unO; rw [h]; exact ⟨rfl, rfl⟩
theorem un_some {l r : List UInt8} (h : unhexL l = some r) : unV l = r ∧ unO l = true := by unfold unV unO; rw [h]; exact ⟨rfl, rfl⟩
theorem unhex_odd : ∀ (l : List UInt8), l.length % 2 = 1 → unhexL l = none
  | [], h => by simp at h
  | [_], _ => rfl
  | a :: b :: r, h => by
    simp only [List.length_cons] at h
    unfold unhexL
    rw [unhex_odd r (by omega)]
    split <;> rfl
theorem idx_any (b : UInt8) (w : World) : Calls Tryd.prog 36 #[.string digs, .int .u8 (b.toNat : Int)] w fun e w' => e = .returned (.int .i64 (hx b)) ∧ w' = w := by
  have := Tryd.strings_IndexByte digs (b.toNat : Int) w
  rw [Int.toNat_natCast, show b.toNat.toUInt8 = b by simp] at this
  exact this
theorem idx_is {b : UInt8} {v : Int} (e : hx b = v) (w : World) : Calls Tryd.prog 36 #[.string digs, .int .u8 (b.toNat : Int)] w fun e w' => e = .returned (.int .i64 v) ∧ w' = w := by
  subst e
  exact idx_any b w
theorem drop_two {s : ByteArray} {k : Nat} (h : 2 * k + 1 < s.size) : s.data.toList.drop (2 * k) = s[2 * k] :: s[2 * k + 1] :: s.data.toList.drop (2 * (k + 1)) := by
  rw [List.drop_eq_getElem_cons (show 2 * k < s.data.toList.length by simpa using (by omega : 2 * k < s.size)), List.drop_eq_getElem_cons (show 2 * k + 1 < s.data.toList.length by simpa using h)]
  rfl
theorem unhex_step {s : ByteArray} {k : Nat} (h : 2 * k + 1 < s.size) : unhexL (s.data.toList.drop (2 * k)) = if 0 ≤ hx s[2 * k] ∧ 0 ≤ hx s[2 * k + 1] then (unhexL (s.data.toList.drop (2 * (k + 1)))).map (UInt8.ofNat ((hx s[2 * k]).toNat * 16 + (hx s[2 * k + 1]).toNat) :: ·) else none := by
  rw [drop_two h]
  rfl
theorem join_nib : ∀ x y : Fin 16, bits .or .i64 ((x.val : Int) * 16) (y.val : Int) = ((x.val * 16 + y.val : Nat) : Int) := by decide +kernel

theorem nib_byte {x y : Nat} (h : bits .or .i64 ((x : Int) * 16) (y : Int) = ((x * 16 + y : Nat) : Int)) : Value.int .u8 (bits .or .i64 ((x : Int) * 16) (y : Int) % 256) = byteV (UInt8.ofNat (x * 16 + y)) := by
  rw [h]
  unfold byteV
  congr 1
theorem set_next {pre : List UInt8} {n : Nat} {b : UInt8} (h : pre.length < n) : ((pre ++ List.replicate (n - pre.length) 0).map byteV).set pre.length (byteV b) = ((pre ++ [b]) ++ List.replicate (n - (pre.length + 1)) 0).map byteV := by
  rw [← List.map_set]
  congr 1
  rw [List.set_append_right _ _ (Nat.le_refl _), Nat.sub_self, show n - pre.length = (n - (pre.length + 1)) + 1 by omega, List.replicate_succ, List.set_cons_zero, List.append_assoc]
  rfl
def Dr (w W : World) : Prop := ∃ m, W = w.drewN m
set_option maxRecDepth 100000 in
set_option maxHeartbeats 1000000 in
theorem unhex_any (s : ByteArray) (hs : Lim s.size) (w : World) :
    Calls Tryd.prog 16 #[.string s] w (Gives (.tuple #[St (unV s.data.toList), .bool (unO s.data.toList)]) w) := by
  obtain ⟨i0, hi, hz0, hz1, hz2⟩ := info_parts infoB
  have hs2 : s.size ≤ 4294967280 := hs
  by_cases hp : s.size % 2 = 1
  · have R := hide (un_none (unhex_odd s.data.toList (by simpa using hp)))
    have T : ((s.size : Int) % 2 != 0) = true := by rw [bne_iff_ne]; omega
    clear hp
    go_enter Tryd.func16, Tryd.ntmps16
    go_wp2
    go_ret2
    exact ⟨congrArg Ending.returned (tup2 (by rw [R.out.1]; rfl) (bool_eq R.out.2.symm)), Below.refl _ _⟩
  · obtain ⟨n, hn⟩ : ∃ n, s.size = 2 * n := ⟨s.size / 2, by omega⟩
    have T : ((s.size : Int) % 2 != 0) = false := by rw [bne_eq_false_iff_eq]; omega
    have N2 : (s.size : Int) / 2 = n := by omega
    have HN := hide hn
    clear hp hn
    go_enter Tryd.func16, Tryd.ntmps16
    go_wp2_with (at_make; refine wpList_make_full _ rfl _ _ 67 rfl w.heap.size 5 i0 (.int .u8 0) 1 Tryd.underlying67 hi hz0 hz1 _ _ _ _ n rfl rfl (by have := HN.out; omega) (by have := HN.out; omega) ?b2 ?b3 (Nat.le_refl _) ?_)
    case b2 => rw [hz2]; omega
    case b3 => unfold maxLen; omega
    intro w0 hown0 hgrow0
    go_wp2_with fail
    go_loopw [18] (fun i wr => ∃ (k : Nat) (pre : List UInt8), k ≤ n ∧ i = .int .i64 k ∧ pre.length = k ∧ Hid (unhexL s.data.toList = (unhexL (s.data.toList.drop (2 * k))).map (pre ++ ·)) ∧
      wr.ownsRow w.heap.size 5 1 (.slice (some ⟨w.heap.size, 0, none⟩) n n) n ((pre ++ List.replicate (n - k) 0).map byteV) ∧ Below w.heap.size w wr) (fun i _ => n - (intOf i).toNat)
    case atStart =>
      refine ⟨0, [], Nat.zero_le _, rfl, rfl, hide ?_, ?_, (Below.refl _ _).grown hgrow0 (Nat.le_refl _) (fun k h => by cases h)⟩
      · simp
      · have e : (madeCells (Value.int .u8 0).cells (n * 1)).toList = (([] : List UInt8) ++ List.replicate (n - 0) 0).map byteV := by
          show (madeCells #[Value.int .u8 0] (n * 1)).toList = _
          rw [toList_madeCells_one]
          simp [byteV]
        rw [← e, Nat.mul_one]; exact hown0
    case round =>
      obtain ⟨k, pre, hk, rfl, rfl, E, hown, hb⟩ := hrel
      by_cases hlt : pre.length < n
      · have q0 : 2 * pre.length < s.size := by have := HN.out; omega
        have q1 : 2 * pre.length + 1 < s.size := by have := HN.out; omega
        have q2 : (2 * (pre.length : Int)) < (s.size : Int) := by omega
        have q3 : (2 * (pre.length : Int)) + 1 < (s.size : Int) := by omega
        have W1 : IntKind.i64.wrap (2 * (pre.length : Int)) = 2 * (pre.length : Int) := IntWalk.i64_in _ ⟨by omega, by omega⟩
        have W2 : IntKind.i64.wrap (2 * (pre.length : Int) + 1) = 2 * (pre.length : Int) + 1 := IntWalk.i64_in _ ⟨by omega, by omega⟩
        have W3 : (0 : Int) ≤ 2 * (pre.length : Int) + 1 := by omega
        have W4 : (0 : Int) ≤ 2 * (pre.length : Int) := by omega
        have ST := hide (unhex_step q1)
        have FZ := hown.frozenAt pre.length
        have CZ := hown.cellAt pre.length (by omega)
        rw [List.getElem?_map, List.getElem?_append_right (by omega), Nat.sub_self, List.getElem?_replicate, if_pos (by omega)] at CZ
        have BA := hx_all s[2 * pre.length]
        have BB := hx_all s[2 * pre.length + 1]
        generalize hA : hx s[2 * pre.length] = A at ST BA
        generalize hB : hx s[2 * pre.length + 1] = B at ST BB
        have HA := hide hA
        have HB := hide hB
        clear hA hB
        obtain ⟨ba1, ba2, _⟩ := BA
        obtain ⟨bb1, bb2, _⟩ := BB
        by_cases ca : A < 0
        · have R := hide (un_none (show unhexL s.data.toList = none by rw [E.out, ST.out, if_neg (by omega)]; rfl))
          clear CZ FZ
          go_wp2_with fail
          refine wp_region_quiet (C := Dr wr) (by kernel_rfl) (by kernel_rfl) ⟨1, rfl⟩ ?_
          refine wpQuiet_step (fun K hK => ?_)
          go_simp
          first | refine ⟨_, fun _ _ => rfl, hK _ ?_⟩ | refine hK _ ?_
          clear hK K
          refine wpQuiet_step (fun K hK => ?_)
          go_simp
          first | refine ⟨_, fun _ _ => rfl, hK _ ?_⟩ | refine hK _ ?_
          clear hK K
          refine wpQuiet_step (fun K hK => ?_)
          go_simp
          first | refine ⟨_, fun _ _ => rfl, hK _ ?_⟩ | refine hK _ ?_
          clear hK K
          refine wpQuiet_step (fun K hK => ?_)
          go_simp
          first | refine ⟨_, fun _ _ => rfl, hK _ ?_⟩ | refine hK _ ?_
          clear hK K
          refine wpQuiet_step (fun K hK => ?_)
          go_simp
          refine ⟨_, fun W hW => (idx_is HA.out W).mono fun e w2 ⟨he, hw⟩ => ⟨he, by rw [hw]; exact hW⟩, hK _ ?_⟩
          clear hK K
          refine wpQuiet_step (fun K hK => ?_)
          go_simp
          first | refine ⟨_, fun _ _ => rfl, hK _ ?_⟩ | refine hK _ ?_
          clear hK K
          refine wpQuiet_step (fun K hK => ?_)
          go_simp
          first | refine ⟨_, fun _ _ => rfl, hK _ ?_⟩ | refine hK _ ?_
          clear hK K
          refine wpQuiet_step (fun K hK => ?_)
          go_simp
          first | refine ⟨_, fun _ _ => rfl, hK _ ?_⟩ | refine hK _ ?_
          clear hK K
          refine wpQuiet_step (fun K hK => ?_)
          go_simp
          first | refine ⟨_, fun _ _ => rfl, hK _ ?_⟩ | refine hK _ ?_
          clear hK K
          refine wpQuiet_step (fun K hK => ?_)
          go_simp
          first | refine ⟨_, fun _ _ => rfl, hK _ ?_⟩ | refine hK _ ?_
          clear hK K
          refine wpQuiet_step (fun K hK => ?_)
          go_simp
          refine ⟨_, fun W hW => (idx_is HB.out W).mono fun e w2 ⟨he, hw⟩ => ⟨he, by rw [hw]; exact hW⟩, hK _ ?_⟩
          clear hK K
          refine wpQuiet_step (fun K hK => ?_)
          go_simp
          first | refine ⟨_, fun _ _ => rfl, hK _ ?_⟩ | refine hK _ ?_
          clear hK K
          refine wpQuiet_step (fun K hK => ?_)
          go_simp
          first | refine ⟨_, fun _ _ => rfl, hK _ ?_⟩ | refine hK _ ?_
          clear hK K
          refine wpQuiet_nil ?_
          rintro wx ⟨m, rfl⟩
          go_wp2_with fail
          go_wp2
          go_ret2
          exact ⟨congrArg Ending.returned (tup2 (by rw [R.out.1]; rfl) (bool_eq R.out.2.symm)), hb.trans ((below_drewN _ _).mono hb.size)⟩
        by_cases cb : B < 0
        · have R := hide (un_none (show unhexL s.data.toList = none by rw [E.out, ST.out, if_neg (by omega)]; rfl))
          clear CZ FZ
          go_wp2_with fail
          refine wp_region_quiet (C := Dr wr) (by kernel_rfl) (by kernel_rfl) ⟨1, rfl⟩ ?_
          refine wpQuiet_step (fun K hK => ?_)
          go_simp
          first | refine ⟨_, fun _ _ => rfl, hK _ ?_⟩ | refine hK _ ?_
          clear hK K
          refine wpQuiet_step (fun K hK => ?_)
          go_simp
          first | refine ⟨_, fun _ _ => rfl, hK _ ?_⟩ | refine hK _ ?_
          clear hK K
          refine wpQuiet_step (fun K hK => ?_)
          go_simp
          first | refine ⟨_, fun _ _ => rfl, hK _ ?_⟩ | refine hK _ ?_
          clear hK K
          refine wpQuiet_step (fun K hK => ?_)
          go_simp
          first | refine ⟨_, fun _ _ => rfl, hK _ ?_⟩ | refine hK _ ?_
          clear hK K
          refine wpQuiet_step (fun K hK => ?_)
          go_simp
          refine ⟨_, fun W hW => (idx_is HA.out W).mono fun e w2 ⟨he, hw⟩ => ⟨he, by rw [hw]; exact hW⟩, hK _ ?_⟩
          clear hK K
          refine wpQuiet_step (fun K hK => ?_)
          go_simp
          first | refine ⟨_, fun _ _ => rfl, hK _ ?_⟩ | refine hK _ ?_
          clear hK K
          refine wpQuiet_step (fun K hK => ?_)
          go_simp
          first | refine ⟨_, fun _ _ => rfl, hK _ ?_⟩ | refine hK _ ?_
          clear hK K
          refine wpQuiet_step (fun K hK => ?_)
          go_simp
          first | refine ⟨_, fun _ _ => rfl, hK _ ?_⟩ | refine hK _ ?_
          clear hK K
          refine wpQuiet_step (fun K hK => ?_)
          go_simp
          first | refine ⟨_, fun _ _ => rfl, hK _ ?_⟩ | refine hK _ ?_
          clear hK K
          refine wpQuiet_step (fun K hK => ?_)
          go_simp
          first | refine ⟨_, fun _ _ => rfl, hK _ ?_⟩ | refine hK _ ?_
          clear hK K
          refine wpQuiet_step (fun K hK => ?_)
          go_simp
          refine ⟨_, fun W hW => (idx_is HB.out W).mono fun e w2 ⟨he, hw⟩ => ⟨he, by rw [hw]; exact hW⟩, hK _ ?_⟩
          clear hK K
          refine wpQuiet_step (fun K hK => ?_)
          go_simp
          first | refine ⟨_, fun _ _ => rfl, hK _ ?_⟩ | refine hK _ ?_
          clear hK K
          refine wpQuiet_step (fun K hK => ?_)
          go_simp
          first | refine ⟨_, fun _ _ => rfl, hK _ ?_⟩ | refine hK _ ?_
          clear hK K
          refine wpQuiet_nil ?_
          rintro wx ⟨m, rfl⟩
          go_wp2_with fail
          go_wp2
          go_ret2
          exact ⟨congrArg Ending.returned (tup2 (by rw [R.out.1]; rfl) (bool_eq R.out.2.symm)), hb.trans ((below_drewN _ _).mono hb.size)⟩
        · obtain ⟨x, rfl⟩ := Int.eq_ofNat_of_zero_le (show 0 ≤ A by omega)
          obtain ⟨y, rfl⟩ := Int.eq_ofNat_of_zero_le (show 0 ≤ B by omega)
          have J := hide (join_nib ⟨x, by omega⟩ ⟨y, by omega⟩)
          have F := hide (show unhexL s.data.toList = (unhexL (s.data.toList.drop (2 * (pre.length + 1)))).map ((pre ++ [UInt8.ofNat (x * 16 + y)]) ++ ·) by
            rw [E.out, ST.out, if_pos (by omega), Int.toNat_natCast, Int.toNat_natCast]
            cases unhexL (s.data.toList.drop (2 * (pre.length + 1))) with
            | none => rfl
            | some r => simp)
          have x0 : (0 : Int) ≤ (x : Int) := by omega
          have y0 : (0 : Int) ≤ (y : Int) := by omega
          go_wp2_with fail
          refine wp_region_quiet (C := Dr wr) (by kernel_rfl) (by kernel_rfl) ⟨1, rfl⟩ ?_
          refine wpQuiet_step (fun K hK => ?_)
          go_simp
          first | refine ⟨_, fun _ _ => rfl, hK _ ?_⟩ | refine hK _ ?_
          clear hK K
          refine wpQuiet_step (fun K hK => ?_)
          go_simp
          first | refine ⟨_, fun _ _ => rfl, hK _ ?_⟩ | refine hK _ ?_
          clear hK K
          refine wpQuiet_step (fun K hK => ?_)
          go_simp
          first | refine ⟨_, fun _ _ => rfl, hK _ ?_⟩ | refine hK _ ?_
          clear hK K
          refine wpQuiet_step (fun K hK => ?_)
          go_simp
          first | refine ⟨_, fun _ _ => rfl, hK _ ?_⟩ | refine hK _ ?_
          clear hK K
          refine wpQuiet_step (fun K hK => ?_)
          go_simp
          refine ⟨_, fun W hW => (idx_is HA.out W).mono fun e w2 ⟨he, hw⟩ => ⟨he, by rw [hw]; exact hW⟩, hK _ ?_⟩
          clear hK K
          refine wpQuiet_step (fun K hK => ?_)
          go_simp
          first | refine ⟨_, fun _ _ => rfl, hK _ ?_⟩ | refine hK _ ?_
          clear hK K
          refine wpQuiet_step (fun K hK => ?_)
          go_simp
          first | refine ⟨_, fun _ _ => rfl, hK _ ?_⟩ | refine hK _ ?_
          clear hK K
          refine wpQuiet_step (fun K hK => ?_)
          go_simp
          first | refine ⟨_, fun _ _ => rfl, hK _ ?_⟩ | refine hK _ ?_
          clear hK K
          refine wpQuiet_step (fun K hK => ?_)
          go_simp
          first | refine ⟨_, fun _ _ => rfl, hK _ ?_⟩ | refine hK _ ?_
          clear hK K
          refine wpQuiet_step (fun K hK => ?_)
          go_simp
          first | refine ⟨_, fun _ _ => rfl, hK _ ?_⟩ | refine hK _ ?_
          clear hK K
          refine wpQuiet_step (fun K hK => ?_)
          go_simp
          refine ⟨_, fun W hW => (idx_is HB.out W).mono fun e w2 ⟨he, hw⟩ => ⟨he, by rw [hw]; exact hW⟩, hK _ ?_⟩
          clear hK K
          refine wpQuiet_step (fun K hK => ?_)
          go_simp
          first | refine ⟨_, fun _ _ => rfl, hK _ ?_⟩ | refine hK _ ?_
          clear hK K
          refine wpQuiet_step (fun K hK => ?_)
          go_simp
          first | refine ⟨_, fun _ _ => rfl, hK _ ?_⟩ | refine hK _ ?_
          clear hK K
          refine wpQuiet_nil ?_
          rintro wx ⟨m, rfl⟩
          go_wp2_with fail
          have hown2 : (wr.drewN m).ownsRow w.heap.size 5 1 (.slice (some ⟨w.heap.size, 0, none⟩) n n) n ((pre ++ List.replicate (n - pre.length) 0).map byteV) := hown
          have O := hide (hown2.stored pre.length (byteV (UInt8.ofNat (x * 16 + y)))).1
          rw [set_next hlt] at O
          have V := hide (nib_byte J.out)
          clear hown2
          go_wp2
          go_roundw
          case rel =>
            refine ⟨pre.length + 1, pre ++ [UInt8.ofNat (x * 16 + y)], by omega, by go_num, by simp, F, ?_, ?_⟩
            · rw [V.out]; exact O.out
            · exact (hb.trans ((below_drewN _ _).mono hb.size)).setCell (by dsimp only; omega) _
          case measure => simp [intOf]; omega
      · have e : pre.length = n := by omega
        have R := hide (un_some (show unhexL s.data.toList = some pre by
          rw [E.out, List.drop_of_length_le (by have := HN.out; simp; omega)]
          simp [unhexL]))
        rw [e, Nat.sub_self, List.replicate_zero, List.append_nil] at hown
        have CV := conv_own hown
        clear e
        go_wp2
        go_ret2
        exact ⟨congrArg Ending.returned (tup2 (by rw [R.out.1]; rfl) (bool_eq R.out.2.symm)), hb⟩
end Go.Proofs.YtmapcllmiomelaaDoor
