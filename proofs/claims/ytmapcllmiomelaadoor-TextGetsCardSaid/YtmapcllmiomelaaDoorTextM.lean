/-
  Contract of putGroups: groups with colons between them, as a text. Conditions: the library's variables hold what is laid; eight groups at most, each of 16 bits.
-/
import Derived.Test.YtmapcllmiomelaaDoorTextL
namespace Go.Proofs.YtmapcllmiomelaaDoor
open Go.RowKit Go.Joins

theorem format16_any (n : Nat) (hn : n < 65536) (w : World) (hv : VO w) :
    Calls Tryd.prog 58 #[.int .u64 (n : Nat), .int .i64 16] w (Gives (St (hexN n)) w) := by
  go_enter Tryd.func58, Tryd.ntmps58
  go_wp2_with (first | (go_at_call 93; refine (bits16_any n hn _ hv).mono ?_; rintro e w1 ⟨rfl, hb1⟩) | go_in)
  go_ret
  exact ⟨rfl, hb1⟩
theorem hexN_len {k : Nat} : ∀ {n : Nat}, n < 16 ^ (k + 1) → (hexN n).length ≤ k + 1 := by
  induction k with
  | zero => intro n h; rw [hexN_small (by simpa using h)]; simp
  | succ k ih =>
    intro n h
    by_cases hn : n < 16
    · rw [hexN_small hn]; simp
    · rw [hexN_big hn, List.length_append]
      have := ih (n := n / 16) (by rw [Nat.pow_succ] at h; omega)
      simp; omega
def hexB (n : Nat) : ByteArray := ⟨(hexN n).toArray⟩
def putG (xs : List Nat) : List UInt8 := Lib.join (xs.map hexN) [58]
theorem lens_le : ∀ (xs : List Nat), (∀ x ∈ xs, x < 65536) → Lib.lens (xs.map hexN) ≤ 4 * xs.length
  | [], _ => by simp [Lib.lens]
  | x :: r, h => by
    have h1 := lens_le r fun y hy => h y (List.mem_cons_of_mem _ hy)
    have h2 : (hexN x).length ≤ 4 := hexN_len (k := 3) (h x (List.mem_cons_self ..))
    simp only [Lib.lens, List.map_cons, List.sum_cons, List.length_cons] at h1 ⊢
    omega
theorem putG_len (xs : List Nat) (h : ∀ x ∈ xs, x < 65536) : (putG xs).length ≤ 5 * xs.length := by
  unfold putG
  cases xs with
  | nil => simp [Lib.join_nil]
  | cons x r =>
    have := lens_le (x :: r) h
    rw [List.map_cons, Lib.join_length, ← List.map_cons]
    simp only [List.length_map, List.length_cons, List.length_nil] at this ⊢
    omega
theorem infoS : (Tryd.prog.info? 9).map (fun i => (i.zero, i.size, i.bytes)) = some (some (.string ByteArray.empty), 1, 16) := by kernel_rfl
theorem set_nextS {pre : List ByteArray} {n : Nat} {b : ByteArray} (h : pre.length < n) : ((pre ++ List.replicate (n - pre.length) ByteArray.empty).map Value.string).set pre.length (Value.string b) = ((pre ++ [b]) ++ List.replicate (n - (pre.length + 1)) ByteArray.empty).map Value.string := by
  rw [← List.map_set]
  congr 1
  rw [List.set_append_right _ _ (Nat.le_refl _), Nat.sub_self, show n - pre.length = (n - (pre.length + 1)) + 1 by omega, List.replicate_succ, List.set_cons_zero, List.append_assoc]
  rfl
theorem hexB_data (xs : List Nat) : (xs.map hexB).map (·.data.toList) = xs.map hexN := by
  rw [List.map_map]; rfl

theorem base_lt {w : World} {base g n cap size : Nat} {e : TypeId} {xs : List Value} (h : w.ownsRow base e size (.slice (some ⟨g, 0, none⟩) n cap) n xs) : g < w.heap.size := by
  rcases h.2 with ⟨h, _⟩ | ⟨g', cap', cur, h, hb, hg, _⟩
  · cases h
  · cases h
    exact (Array.getElem?_eq_some_iff.mp hg).1
theorem joined {base g n : Nat} {pre : List ByteArray} {xs : List Nat} {W : World} {t : TypeId} (h : W.ownsRow base t 1 (.slice (some ⟨g, 0, none⟩) n n) n (pre.map .string)) (e : pre.length = n) (hn : n ≤ 8) (hx : n = xs.length) (F : pre = xs.map hexB) (PL : (putG xs).length ≤ 5 * xs.length) :
    Calls Tryd.prog 38 #[.slice (some ⟨g, 0, none⟩) n n, .string ⟨#[58]⟩] W (Gives (St (putG xs)) W) := by
  have J : Lib.join (pre.map (·.data.toList)) (ByteArray.mk #[58]).data.toList = putG xs := by rw [F, hexB_data]; rfl
  have := Tryd.strings_Join g 0 n pre ⟨#[58]⟩ W ?_ (base_lt h) (by omega) (by omega) (by rw [J]; omega)
  · rw [J, e] at this
    exact this
  · intro j x hj
    have hl : j < n := by rw [← e]; exact (List.getElem?_eq_some_iff.mp hj).1
    have c := h.cellAt j (by omega)
    rw [List.getElem?_map, hj] at c
    rw [Nat.zero_add]
    exact c

set_option maxRecDepth 100000 in
set_option maxHeartbeats 1000000 in
theorem putg_any (g off cap : Nat) (xs : List Nat) (hl : xs.length ≤ 8) (hx : ∀ x ∈ xs, x < 65536) (w : World) (hv : VO w) (hg : g < w.heap.size)
    (hc : ∀ (j x : Nat), xs[j]? = some x → w.cell? ⟨g, off + j, none⟩ = some (.int .u16 (x : Nat))) :
    Calls Tryd.prog 41 #[.slice (some ⟨g, off, none⟩) xs.length cap] w (Gives (St (putG xs)) w) := by
  obtain ⟨i0, hi, hz0, hz1, hz2⟩ := info_parts infoS
  have PL := hide (putG_len xs hx)
  have HX := hide hx
  have HC := hide hc
  obtain ⟨n, hn⟩ : ∃ n, n = xs.length := ⟨_, rfl⟩
  rw [← hn] at hl ⊢
  have HN := hide hn
  have n8 : (n : Int) ≤ 8 := by omega
  clear hn hx hc
  go_enter Tryd.func41, Tryd.ntmps41
  go_wp2_with (at_make; refine wpList_make_full _ rfl _ _ 50 rfl w.heap.size 9 i0 (.string ByteArray.empty) 1 Tryd.underlying50 hi hz0 hz1 _ _ _ _ n rfl rfl rfl rfl ?b2 ?b3 (Nat.le_refl _) ?_)
  case b2 => rw [hz2]; omega
  case b3 => unfold maxLen; omega
  intro w0 hown0 hgrow0
  go_wp2_with fail
  go_loopw [11] (fun i wr => ∃ (k : Nat) (pre : List ByteArray), k ≤ n ∧ i = .int .i64 (k : Nat) ∧ pre.length = k ∧ Hid (pre = (xs.take k).map hexB) ∧
    wr.ownsRow w.heap.size 9 1 (.slice (some ⟨w.heap.size, 0, none⟩) n n) n ((pre ++ List.replicate (n - k) ByteArray.empty).map Value.string) ∧ Below w.heap.size w wr) (fun i _ => n - (intOf i).toNat)
  case atStart =>
    refine ⟨0, [], Nat.zero_le _, rfl, rfl, hide rfl, ?_, (Below.refl _ _).grown hgrow0 (Nat.le_refl _) (fun k h => by cases h)⟩
    have e : (madeCells (Value.string ByteArray.empty).cells (n * 1)).toList = (([] : List ByteArray) ++ List.replicate (n - 0) ByteArray.empty).map Value.string := by
      show (madeCells #[Value.string ByteArray.empty] (n * 1)).toList = _
      rw [toList_madeCells_one]
      simp
    rw [← e, Nat.mul_one]; exact hown0
  case round =>
    clear hown0 hgrow0
    obtain ⟨k, pre, hk, rfl, rfl, E, hown, hb⟩ := hrel
    by_cases hlt : pre.length < n
    · obtain ⟨x, hx⟩ : ∃ x, xs[pre.length]? = some x := ⟨xs[pre.length]'(by have := HN.out; omega), List.getElem?_eq_getElem _⟩
      have hcx : wr.cell? ⟨g, off + pre.length, none⟩ = some (.int .u16 (x : Nat)) := by rw [hb.cell (by exact hg)]; exact HC.out _ _ hx
      have XL := hide (HX.out x (List.mem_of_getElem? hx))
      have F := hide (show pre ++ [hexB x] = (xs.take (pre.length + 1)).map hexB by
        rw [List.take_add_one, hx]
        have := E.out
        simp only [List.map_append]
        rw [← this]; rfl)
      clear hx
      go_wp2_with fail
      rw [show IntKind.u64.wrap ((x : Nat) : Int) = ((x : Nat) : Int) by rw [IntKind.wrap_u64]; have := XL.out; omega]
      refine (format16_any x XL.out _ (VO.step hb hv)).mono ?_
      rintro e w2 ⟨rfl, hb2⟩
      have hown2 := own_keep hown hb2
      have FZ := hown2.frozenAt pre.length
      have CZ := hown2.cellAt pre.length (by omega)
      rw [List.getElem?_map, List.getElem?_append_right (by omega), Nat.sub_self, List.getElem?_replicate, if_pos (by omega)] at CZ
      have O := hide (hown2.stored pre.length (.string (hexB x))).1
      rw [set_nextS hlt] at O
      clear hown2
      have BG := base_le hown
      go_wp2
      go_roundw
      case rel => exact ⟨pre.length + 1, pre ++ [hexB x], by omega, by go_num, by simp, F, O.out, (chain hb hb2).setCell BG _⟩
      case measure => simp [intOf]; omega
    · have e : pre.length = n := by omega
      have F := hide (show pre = xs.map hexB by rw [E.out, e, HN.out, List.take_length])
      rw [e, Nat.sub_self, List.replicate_zero, List.append_nil] at hown
      cases n with
      | zero =>
        have F0 := hide (show putG xs = [] by
          have : xs = [] := List.eq_nil_of_length_eq_zero HN.out.symm
          subst this; rfl)
        go_wp2_with (first | (go_at_call 38; refine (Tryd.strings_Join_none _ _ _ _).mono ?_; rintro e3 w3 ⟨rfl, rfl⟩) | go_in)
        go_ret
        rw [F0.out]
        exact ⟨rfl, hb⟩
      | succ m =>
        have J := hide (joined hown e hl HN.out F.out PL.out)
        go_wp2_with (first | (go_at_call 38; refine J.out.mono ?_; rintro e3 w3 ⟨rfl, hb3⟩) | go_in)
        go_ret
        exact ⟨rfl, chain hb hb3⟩
end Go.Proofs.YtmapcllmiomelaaDoor
