/-
  The walk of the law Opt4Emits: it returns true. No condition.
-/
import Derived.Test.YtmidnkfgbdiamaaOpQb
namespace Go.Proofs.Ytmidnkfgbdiamaa
open Go.RowKit Go.Joins Go.Maps

set_option maxRecDepth 100000 in
set_option maxHeartbeats 4000000 in
theorem lawemits_any (code : UInt8) {v : Value} {l : List Opt} (hl : l.length ≤ 9223372036854775807) (w : World) (hv : LstO v l w) :
    Calls Try.prog 4 #[v, KV code] w (Gives (.bool true) w) := by
  have HV := hide (fun W (H : Below w.heap.size w W) => hv.step H)
  obtain ⟨p, c, rfl⟩ := lstO_len hv
  clear hv
  have AW := hide (awake_any w)
  by_cases h300 : 300 < l.length
  · have P1 : (300 : Int) < (l.length : Int) := by omega
    go_enter Try.func4, Try.ntmps4
    go_wp2_with fail
    refine AW.out.mono ?_
    rintro e w1 ⟨rfl, hb1⟩
    have B1 := hide hb1
    clear hb1
    go_wp2
    go_ret
    exact ⟨rfl, B1.out⟩
  · have P1 : ¬ (300 : Int) < (l.length : Int) := by omega
    have hl24 : l.length * 24 ≤ 140737488355328 := by omega
    obtain ⟨es, ES⟩ : ∃ es, Hid (bs (emitS l) = es) := ⟨_, hide rfl⟩
    obtain ⟨en, EN⟩ : ∃ en, Hid (emitE l = en) := ⟨_, hide rfl⟩
    obtain ⟨fd, FD⟩ : ∃ fd, Hid (findD l code = fd) := ⟨_, hide rfl⟩
    obtain ⟨fh, FH⟩ : ∃ fh, Hid (hasC code l = fh) := ⟨_, hide rfl⟩
    obtain ⟨K, KE⟩ : ∃ K, Hid (kept code l = K) := ⟨_, hide rfl⟩
    have KLn : K.length ≤ 300 := by rw [← KE.out]; exact Nat.le_trans (List.length_filter_le _ _) (by omega)
    have E1 := hide (fun W (H : Below w.heap.size w W) => emit_any hl W (HV.out W H))
    have E2 := hide (fun W (H : Below w.heap.size w W) => remit_any hl W (HV.out W H))
    have F1 := hide (fun W (H : Below w.heap.size w W) => (show Calls Try.prog 14 #[.slice p l.length c, KV code] W (Gives (.tuple #[.string fd, .bool fh]) W) by
      have := find_any code hl24 W (HV.out W H)
      rwa [FD.out, FH.out] at this))
    have F2 := hide (fun W (H : Below w.heap.size w W) => (show Calls Try.prog 15 #[.slice p l.length c, KV code] W (Gives (.tuple #[.string fd, .bool fh]) W) by
      have := rfind_any code hl24 W (HV.out W H)
      rwa [FD.out, FH.out] at this))
    have G1 := hide (fun W (H : Below w.heap.size w W) => (show Calls Try.prog 16 #[.slice p l.length c, KV code] W (MakesO W.heap.size K W) by
      have := without_any code hl24 W (HV.out W H)
      rwa [KE.out] at this))
    have G2 := hide (fun W (H : Below w.heap.size w W) => (show Calls Try.prog 17 #[.slice p l.length c, KV code] W (MakesO W.heap.size K W) by
      have := rwithout_any code hl24 W (HV.out W H)
      rwa [KE.out] at this))
    go_enter Try.func4, Try.ntmps4
    go_wp2_with fail
    refine AW.out.mono ?_
    rintro e w1 ⟨rfl, hb1⟩
    have B1 := hide hb1
    clear hb1
    go_wp2_with fail
    refine (E1.out w1 B1.out).mono ?_
    rintro e w2 ⟨rfl, hb2⟩
    have B2 := hide (chain B1.out hb2)
    rw [ES.out, EN.out]
    clear hb2
    go_wp2_with fail
    refine (E2.out w2 B2.out).mono ?_
    rintro e w3 ⟨rfl, hb3⟩
    have B3 := hide (chain B2.out hb3)
    rw [ES.out, EN.out]
    clear hb3
    go_wp2_with fail
    refine (F1.out w3 B3.out).mono ?_
    rintro e w4 ⟨rfl, hb4⟩
    have B4 := hide (chain B3.out hb4)
    clear hb4
    go_wp2_with fail
    refine (F2.out w4 B4.out).mono ?_
    rintro e w5 ⟨rfl, hb5⟩
    have B5 := hide (chain B4.out hb5)
    clear hb5
    have T1 : (fh == fh) = true := by cases fh <;> rfl
    go_wp2_with fail
    refine (G1.out w5 B5.out).mono ?_
    rintro e w6 ⟨v6, rfl, hb6, ho6⟩
    have B6 := hide (chain B5.out hb6)
    have O6 := hide (ownO_lst ho6)
    clear hb6 ho6
    go_wp2_with fail
    refine (G2.out w6 B6.out).mono ?_
    rintro e w7 ⟨v7, rfl, hb7, ho7⟩
    have B7 := hide (chain B6.out hb7)
    have SA := hide (same_any (l := K) (m := K) (by omega) w7 (O6.out.step hb7) (ownO_lst ho7))
    rw [decide_eq_true rfl] at SA
    clear hb7 ho7
    go_wp2_with fail
    refine SA.out.mono ?_
    rintro e w8 ⟨rfl, hb8⟩
    have B8 := hide (chain B7.out hb8)
    clear hb8
    go_wp2
    go_ret
    exact ⟨rfl, B8.out⟩
end Go.Proofs.Ytmidnkfgbdiamaa
