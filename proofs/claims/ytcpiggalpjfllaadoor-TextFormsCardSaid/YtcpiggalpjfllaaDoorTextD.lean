/-
  The walk of the law TextDots: it returns true. Condition: the library's variables hold what is laid.
-/
import Derived.Test.YtcpiggalpjfllaaDoorTextDm
namespace Go.Proofs.YtcpiggalpjfllaaDoor
open Go.RowKit Go.Joins

theorem unhex_len : ∀ (l h : List UInt8), unhexL l = some h → h.length ≤ l.length
  | [], h, e => by simp [unhexL] at e; subst e; simp
  | [_], h, e => by simp [unhexL] at e
  | a :: b :: r, h, e => by
    unfold unhexL at e
    split at e
    · cases hr : unhexL r with
      | none => rw [hr] at e; cases e
      | some t =>
        rw [hr] at e
        simp only [Option.map_some, Option.some.injEq] at e
        subst e
        have := unhex_len r t hr
        simp only [List.length_cons]
        omega
    · cases e
theorem unhex_lim {s : ByteArray} {h : List UInt8} (hs : Lim s.size) (e : unhexL s.data.toList = some h) : Lim (ByteArray.mk h.toArray).size := Nat.le_trans (show h.length ≤ s.data.toList.length from unhex_len _ _ e) hs

set_option maxRecDepth 100000 in
set_option maxHeartbeats 2000000 in
theorem dots_any (s : ByteArray) (w : World) (hv : VO w) :
    Calls Tryd.prog 6 #[.string s] w (Gives (.bool true) w) := by
  have AW := hide (fun W hV => awake2_any W hV)
  by_cases hl : (s.size : Int) > 65536
  · go_enter Tryd.func6, Tryd.ntmps6
    go_wp2_with fail
    refine (AW.out _ hv).mono ?_
    rintro e w1 ⟨rfl, hb1⟩
    go_wp2_with fail
    refine (AW.out _ (VO.step hb1 hv)).mono ?_
    rintro e w2 ⟨rfl, hb2⟩
    go_wp2
    go_ret
    exact ⟨rfl, chain hb1 hb2⟩
  · have hs : Lim s.size := by unfold Lim; omega
    have G4 := hide (get4_any s hs)
    have GN := hide (getnum_any s hs)
    have GU := hide (unhex_any s hs)
    go_enter Tryd.func6, Tryd.ntmps6
    go_wp2_with fail
    refine (AW.out _ hv).mono ?_
    rintro e w1 ⟨rfl, hb1⟩
    go_wp2_with fail
    refine (G4.out _ (VO.step hb1 hv)).mono ?_
    rintro e w2 ⟨rfl, hb2⟩
    have HB2 := chain hb1 hb2
    clear hb1 hb2
    cases h4 : get4 s with
    | none =>
      have K := hide (get4_none h4)
      rw [K.out.1, K.out.2]
      clear h4
      go_wp2_with fail
      refine (GN.out _ (VO.step HB2 hv)).mono ?_
      rintro e w3 ⟨rfl, hb3⟩
      have HB3 := chain HB2 hb3
      clear hb3
      cases hn : gnum s.data.toList with
      | none =>
        have K2 := hide (gnum_none hn)
        rw [K2.out.1, K2.out.2]
        clear hn
        go_wp2_with fail
        refine (GU.out _).mono ?_
        rintro e w4 ⟨rfl, hb4⟩
        have HB4 := chain HB3 hb4
        clear hb4
        cases hu : unhexL s.data.toList with
        | none =>
          have K3 := hide (un_none hu)
          rw [K3.out.1, K3.out.2]
          clear hu
          go_wp2
          go_ret
          exact ⟨rfl, HB4⟩
        | some h =>
          have K3 := hide (un_some hu)
          rw [K3.out.1, K3.out.2]
          have hh : Lim (ByteArray.mk h.toArray).size := unhex_lim hs hu
          have X := hide (via (hex_any ⟨h.toArray⟩ hh w4) (v' := .string s) (by rw [show (ByteArray.mk h.toArray).data.toList = h from rfl, hexL_unhex _ _ hu]))
          clear hu hh
          go_wp2_with fail
          refine X.out.mono ?_
          rintro e w5 ⟨rfl, hb5⟩
          go_wp2
          go_ret
          exact ⟨rfl, chain HB4 hb5⟩
      | some m =>
        have K2 := hide (gnum_some hn)
        rw [K2.out.1, K2.out.2]
        have mb := (gnum_eq hn).1
        have Q := hide (via (num_any (m : Int) (by omega) (by omega) w3 (VO.step HB3 hv)) (v' := .string s) (by rw [(gnum_eq hn).2]))
        clear hn
        go_wp2_with fail
        refine Q.out.mono ?_
        rintro e w4 ⟨rfl, hb4⟩
        have HB4 := chain HB3 hb4
        clear hb4 Q
        go_wp2_with fail
        refine (GU.out _).mono ?_
        rintro e w5 ⟨rfl, hb5⟩
        have HB5 := chain HB4 hb5
        clear hb5
        cases hu : unhexL s.data.toList with
        | none =>
          have K3 := hide (un_none hu)
          rw [K3.out.1, K3.out.2]
          clear hu
          go_wp2
          go_ret
          exact ⟨rfl, HB5⟩
        | some h =>
          have K3 := hide (un_some hu)
          rw [K3.out.1, K3.out.2]
          have hh : Lim (ByteArray.mk h.toArray).size := unhex_lim hs hu
          have X := hide (via (hex_any ⟨h.toArray⟩ hh w5) (v' := .string s) (by rw [show (ByteArray.mk h.toArray).data.toList = h from rfl, hexL_unhex _ _ hu]))
          clear hu hh
          go_wp2_with fail
          refine X.out.mono ?_
          rintro e w6 ⟨rfl, hb6⟩
          go_wp2
          go_ret
          exact ⟨rfl, chain HB5 hb6⟩
    | some n =>
      have K := hide (get4_some h4)
      rw [K.out.1, K.out.2]
      have P := hide (via (put4_any n (get4_lt h4) w2 (VO.step HB2 hv)) (v' := .string s) (by rw [put4_get4 h4]))
      clear h4
      go_wp2_with fail
      refine P.out.mono ?_
      rintro e w3 ⟨rfl, hb3⟩
      have HB3 := chain HB2 hb3
      clear hb3 P
      go_wp2_with fail
      refine (GN.out _ (VO.step HB3 hv)).mono ?_
      rintro e w4 ⟨rfl, hb4⟩
      have HB4 := chain HB3 hb4
      clear hb4
      cases hn : gnum s.data.toList with
      | none =>
        have K2 := hide (gnum_none hn)
        rw [K2.out.1, K2.out.2]
        clear hn
        go_wp2_with fail
        refine (GU.out _).mono ?_
        rintro e w5 ⟨rfl, hb5⟩
        have HB5 := chain HB4 hb5
        clear hb5
        cases hu : unhexL s.data.toList with
        | none =>
          have K3 := hide (un_none hu)
          rw [K3.out.1, K3.out.2]
          clear hu
          go_wp2
          go_ret
          exact ⟨rfl, HB5⟩
        | some h =>
          have K3 := hide (un_some hu)
          rw [K3.out.1, K3.out.2]
          have hh : Lim (ByteArray.mk h.toArray).size := unhex_lim hs hu
          have X := hide (via (hex_any ⟨h.toArray⟩ hh w5) (v' := .string s) (by rw [show (ByteArray.mk h.toArray).data.toList = h from rfl, hexL_unhex _ _ hu]))
          clear hu hh
          go_wp2_with fail
          refine X.out.mono ?_
          rintro e w6 ⟨rfl, hb6⟩
          go_wp2
          go_ret
          exact ⟨rfl, chain HB5 hb6⟩
      | some m =>
        have K2 := hide (gnum_some hn)
        rw [K2.out.1, K2.out.2]
        have mb := (gnum_eq hn).1
        have Q := hide (via (num_any (m : Int) (by omega) (by omega) w4 (VO.step HB4 hv)) (v' := .string s) (by rw [(gnum_eq hn).2]))
        clear hn
        go_wp2_with fail
        refine Q.out.mono ?_
        rintro e w5 ⟨rfl, hb5⟩
        have HB5 := chain HB4 hb5
        clear hb5 Q
        go_wp2_with fail
        refine (GU.out _).mono ?_
        rintro e w6 ⟨rfl, hb6⟩
        have HB6 := chain HB5 hb6
        clear hb6
        cases hu : unhexL s.data.toList with
        | none =>
          have K3 := hide (un_none hu)
          rw [K3.out.1, K3.out.2]
          clear hu
          go_wp2
          go_ret
          exact ⟨rfl, HB6⟩
        | some h =>
          have K3 := hide (un_some hu)
          rw [K3.out.1, K3.out.2]
          have hh : Lim (ByteArray.mk h.toArray).size := unhex_lim hs hu
          have X := hide (via (hex_any ⟨h.toArray⟩ hh w6) (v' := .string s) (by rw [show (ByteArray.mk h.toArray).data.toList = h from rfl, hexL_unhex _ _ hu]))
          clear hu hh
          go_wp2_with fail
          refine X.out.mono ?_
          rintro e w7 ⟨rfl, hb7⟩
          go_wp2
          go_ret
          exact ⟨rfl, chain HB6 hb7⟩
end Go.Proofs.YtcpiggalpjfllaaDoor
