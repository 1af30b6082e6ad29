/-
  The contract of lease.Encode: what it returns for every list. Conditions: the words are words of 64 bits; a slice has at most 2^47 elements.
-/
import Derived.Test.YtgioifdmmneapaaLE
import Derived.Test.YtgioifdmmneapaaLW
import Derived.Test.YtgioifdmmneapaaShelf
import Derived.Lib.Join
namespace Go.Proofs.Ytgioifdmmneapaa
open Go.RowKit Go.Joins

def encL (l : List Ch) : List UInt8 := beL 2 l.length ++ (l.map encB).flatten
def encV (l : List Ch) : List UInt8 := if 2048 < l.length then [] else if wrongL l = true then [] else encL l
def encE (l : List Ch) : Int := if 2048 < l.length then 6 else if wrongL l = true then 80 else 0
theorem encB_len {c : Ch} (h : changeS c = true) : 19 ≤ (encB c).length ∧ (encB c).length ≤ 166 := by
  have h16 := beL_length 16 c.l.p
  have h4 := beL_length 4 c.l.ia
  have h8 := beL_length 8 c.l.un.toNat
  have h2 := beL_length 2 c.l.cl.size
  have hd : c.l.cl.data.toList.length = c.l.cl.size := rfl
  unfold encB headB
  split
  · simp; omega
  · rename_i hg
    have := (lease_range (x := c.l) (by unfold changeS at h; rw [if_neg hg] at h; exact h)).2.2.2
    unfold restB
    simp
    omega
theorem join_flat (xs : List (List UInt8)) : Lib.join xs [] = xs.flatten := by
  cases xs with
  | nil => rfl
  | cons x r =>
    rw [Lib.join_cons, List.flatten_cons]
    unfold Lib.joinTail
    congr 2
    have : (fun y : List UInt8 => [] ++ y) = id := by funext y; rfl
    rw [this, List.map_id]
theorem flat_len {l : List Ch} (h : ∀ c ∈ l, changeS c = true) : (l.map encB).flatten.length ≤ 166 * l.length := by
  induction l with
  | nil => simp
  | cons c l ih =>
    have h1 := encB_len (h c List.mem_cons_self)
    have h2 := ih (fun x hx => h x (List.mem_cons_of_mem _ hx))
    rw [List.map_cons, List.flatten_cons, List.length_append, List.length_cons]
    omega
theorem own_below {a b : World} {base n size : Nat} {e : TypeId} {v : Value} {xs : List Value} (h : a.ownsRow base e size v n xs) (hb : Below a.heap.size a b) : b.ownsRow base e size v n xs := by
  refine ⟨h.1, ?_⟩
  rcases h.2 with hn2 | ⟨g, cap, cur, rfl, h2, h3, h4⟩
  · exact Or.inl hn2
  · exact Or.inr ⟨g, cap, cur, rfl, h2, (by rw [hb.block g (Array.getElem?_eq_some_iff.mp h3).1]; exact h3), h4⟩
theorem own_lt {w : World} {base g n cap size : Nat} {e : TypeId} {xs : List Value} (h : w.ownsRow base e size (.slice (some ⟨g, 0, none⟩) n cap) n xs) : g < w.heap.size := by
  rcases h.2 with ⟨h, _⟩ | ⟨g', cap', cur, h, hb, hg, _⟩
  · cases h
  · cases h
    exact (Array.getElem?_eq_some_iff.mp hg).1
theorem infoSt : (Try.prog.info? 9).map (fun i => (i.zero, i.size, i.bytes)) = some (some (.string ⟨#[]⟩), 1, 16) := by kernel_rfl
theorem join_own {base g n cap : Nat} {xs : List (List UInt8)} {W : World} (h : W.ownsRow base 9 1 (.slice (some ⟨g, 0, none⟩) n cap) n (xs.map St)) (e : xs.length = n) (hn : n ≤ 4096) (hc : n ≤ cap) (hx : xs.flatten.length ≤ 140737488355328) :
    Calls Try.prog 39 #[.slice (some ⟨g, 0, none⟩) n cap, .string ⟨#[]⟩] W (Gives (St xs.flatten) W) := by
  have M : (xs.map (fun x => (⟨x.toArray⟩ : ByteArray))).map (·.data.toList) = xs := by
    rw [List.map_map]
    have : ((fun s : ByteArray => s.data.toList) ∘ fun x : List UInt8 => (⟨x.toArray⟩ : ByteArray)) = id := by funext x; rfl
    rw [this, List.map_id]
  have J : Lib.join ((xs.map (fun x => (⟨x.toArray⟩ : ByteArray))).map (·.data.toList)) (ByteArray.mk #[]).data.toList = xs.flatten := by
    rw [M]; exact join_flat xs
  have := Try.strings_Join g 0 cap (xs.map (fun x => (⟨x.toArray⟩ : ByteArray))) ⟨#[]⟩ W ?_ (own_lt h) (by rw [List.length_map]; omega) (by rw [List.length_map]; omega) (by rw [J]; exact hx)
  · rw [J, List.length_map, e] at this
    exact this
  · intro j x hj
    have hl : j < n := by have := (List.getElem?_eq_some_iff.mp hj).1; rw [List.length_map] at this; omega
    have c := h.cellAt j (by omega)
    rw [List.getElem?_map] at hj c
    cases hq : xs[j]? with
    | none => rw [hq] at hj; cases hj
    | some y =>
      rw [hq] at hj c
      cases hj
      rw [Nat.zero_add]
      exact c
theorem st_cell (l : List UInt8) : ∀ u ∈ [St l], u.oneCell' = true := by
  intro u hu
  rw [List.mem_singleton.1 hu]; rfl
theorem st_at (W : World) (l : List UInt8) (t : TypeId) : ∀ j u, [St l][j]? = some u → (W.alloc (.cells #[St l] t)).cell? ((⟨W.heap.size, 0, none⟩ : Go.Addr).add j) = some u := by
  intro j u hj
  match j, hj with
  | 0, hj => simp at hj; subst hj; simp [go_sem]
theorem cap_of {w : World} {base g n cap : Nat} {e : TypeId} {xs : List Value} (h : w.ownsRow base e 1 (.slice (some ⟨g, 0, none⟩) n cap) n xs) : n ≤ cap := by
  rcases h.2 with ⟨h, _⟩ | ⟨g', cap', cur, h, hb, hg, hr⟩
  · cases h
  · cases h
    exact hr.1

set_option maxRecDepth 100000 in
set_option maxHeartbeats 2000000 in
theorem enc_any (p : Option Go.Addr) (c : Nat) (l : List Ch) (hl : okL l) (hm : l.length ≤ maxLen) (w : World) (hr : LstC p l w) :
    Calls Try.prog 20 #[.slice p l.length c] w (Gives (.tuple #[St (encV l), .int .i64 (encE l)]) w) := by
  by_cases h1 : 2048 < l.length
  · have K1 := hide (show encV l = [] by unfold encV; rw [if_pos h1])
    have K2 := hide (show encE l = 6 by unfold encE; rw [if_pos h1])
    have h2 : 2048 < (l.length : Int) := by omega
    clear h1 hl hm hr
    go_enter Try.func20, Try.ntmps20
    go_wp2
    go_ret2
    exact ⟨congrArg Ending.returned (tup2 (st_eq K1.out.symm) (i64_eq K2.out.symm)), Below.refl _ _⟩
  have h2 : ¬ 2048 < (l.length : Int) := by omega
  have WR := hide (wrong_any p c l hl hm w hr)
  cases hw : wrongL l with
  | true =>
    have K1 := hide (show encV l = [] by unfold encV; rw [if_neg h1, if_pos hw])
    have K2 := hide (show encE l = 80 by unfold encE; rw [if_neg h1, if_pos hw])
    rw [hw] at WR
    clear h1 hl hm hr hw
    go_enter Try.func20, Try.ntmps20
    go_wp2_with fail
    refine WR.out.mono ?_
    rintro e w' ⟨rfl, hb⟩
    go_wp2
    go_ret2
    exact ⟨congrArg Ending.returned (tup2 (st_eq K1.out.symm) (i64_eq K2.out.symm)), hb⟩
  | false =>
    have K1 := hide (show encV l = encL l by unfold encV; rw [if_neg h1, if_neg (by rw [hw]; decide)])
    have K2 := hide (show encE l = 0 by unfold encE; rw [if_neg h1, if_neg (by rw [hw]; decide)])
    have OK := hide (wrong_iff.1 hw)
    rw [hw] at WR
    have HL := hide hl
    have HR := hide hr
    have hlen : l.length ≤ 2048 := by omega
    have P2 := hide (fun W => put16_any l.length (by omega) W)
    have W1 : IntKind.u16.wrap (l.length : Int) = (l.length : Int) := by rw [IntKind.wrap_u16]; omega
    obtain ⟨i0, hi, hz0, hz1, hz2⟩ := info_parts infoSt
    clear h1 hl hm hr hw
    go_enter Try.func20, Try.ntmps20
    go_wp2_with fail
    refine WR.out.mono ?_
    rintro e w1 ⟨rfl, hb1⟩
    go_wp2_with fail
    refine (P2.out _).mono ?_
    rintro e w2 ⟨rfl, hb2⟩
    have B2 := chain hb1 hb2
    have zb := B2.size
    have O2 := World.ownsRow_lit (base := w.heap.size) (e := 9) (size := 1) w2 #[St (beL 2 l.length)] 1 (by omega) (by unfold maxLen; omega) rfl
    clear hb1 hb2
    go_wp2_with fail
    go_loopw [4, 19] (fun v i wr => ∃ k g cap : Nat, k ≤ l.length ∧ i = .int .i64 (k : Nat) ∧ v = .slice (some ⟨g, 0, none⟩) (k + 1) cap ∧ wr.ownsRow w.heap.size 9 1 (.slice (some ⟨g, 0, none⟩) (k + 1) cap) (k + 1) ((beL 2 l.length :: (l.take k).map encB).map St) ∧ Below w.heap.size w wr) (fun _ i _ => l.length - (intOf i).toNat)
    case atStart => exact ⟨0, w2.heap.size, 1, Nat.zero_le _, rfl, rfl, O2, B2.trans ((below_alloc _ _).mono (by omega))⟩
    case round =>
      clear O2 B2 zb
      obtain ⟨k, g, cap, hk, rfl, rfl, O3, B3⟩ := hrel
      by_cases hlt : k < l.length
      · obtain ⟨x, hx⟩ := get_some hlt
        have hxm := List.mem_of_getElem? hx
        have EN := hide (fun W => encode_any x (HL.out x hxm) (OK.out x hxm) W)
        have TK := hide (show (l.take (k + 1)).map encB = (l.take k).map encB ++ [encB x] by rw [List.take_add_one, hx]; simp)
        have HR3 := hide (HR.out.step B3)
        obtain ⟨b, o, rfl, x0, x1, x2, x3, x4, x5, x6, x7, x8⟩ := HR3.out k x hx
        have hlt2 : (k : Int) < (l.length : Int) := by omega
        have hk0 : (0 : Int) ≤ (k : Int) := by omega
        clear hx hxm
        go_wp2_with fail
        refine (EN.out _).mono ?_
        rintro e w4 ⟨rfl, hb4⟩
        have hb5 := chain (below_alloc _ _) hb4
        have O4 := (own_below O3 hb5).alloc (.cells #[St (encB x)] 9)
        have B4 := B3.trans (hb5.mono B3.size)
        have B5 := B4.trans ((below_alloc w4 (.cells #[St (encB x)] 9)).mono B4.size)
        have hg3 := base_le O3
        clear hb4 hb5 x0 x1 x2 x3 x4 x5 x6 x7 x8 O3 B3
        go_wp2_with (at_builtin; refine wpList_append_lies _ rfl (.tmp 23) (.tmp 26) 61 rfl w.heap.size 9 i0 (.string ⟨#[]⟩) 1 16 Try.underlying61 hi hz0 hz1 hz2 rfl (by decide) _ _ _ rfl O4 ⟨w4.heap.size, 0, none⟩ 1 1 [St (encB x)] rfl rfl (st_at w4 (encB x) 9) (st_cell (encB x)) (by omega) (by unfold maxLen; omega) (by omega) B5.size _ rfl ?_; intro g2 cap2 w5 O5 G5 _ _)
        have B6 := B5.grown G5 B5.size (fun j hj => by cases hj; exact hg3)
        go_wp2
        go_roundw
        case rel =>
          refine ⟨k + 1, g2, cap2, hlt, by go_num, rfl, ?_, B6⟩
          rw [TK.out]
          have e : (beL 2 l.length :: ((l.take k).map encB ++ [encB x])).map St = (beL 2 l.length :: (l.take k).map encB).map St ++ [St (encB x)] := by simp
          rw [e]; exact O5
        case measure => simp [intOf]; omega
      · have e : k = l.length := by omega
        have TK := hide (show l.take k = l by rw [e, List.take_length])
        rw [TK.out] at O3
        have hlt2 : ¬ (k : Int) < (l.length : Int) := by omega
        have J := hide (join_own O3 (by rw [List.length_cons, List.length_map, e]) (by omega) (cap_of O3) (by
          rw [List.flatten_cons, List.length_append, beL_length]
          have := flat_len OK.out
          omega))
        clear e
        go_wp2_with fail
        refine J.out.mono ?_
        rintro e w4 ⟨rfl, hb4⟩
        go_wp2
        go_ret2
        exact ⟨congrArg Ending.returned (tup2 (st_eq (by rw [K1.out]; rfl)) (i64_eq K2.out.symm)), B3.trans (hb4.mono B3.size)⟩
end Go.Proofs.Ytgioifdmmneapaa
