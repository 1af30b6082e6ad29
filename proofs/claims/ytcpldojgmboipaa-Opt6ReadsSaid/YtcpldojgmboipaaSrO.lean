/-
  The document's own option, statusOption, Code. Conditions: those of each theorem's own statement.
-/
import Derived.Test.YtcpldojgmboipaaSrS
namespace Go.Proofs.Ytcpldojgmboipaa
open Go.RowKit Go.Joins

set_option maxRecDepth 100000 in
theorem roption_any (c : UInt16) (d : ByteArray) (hd : d.size ≤ 65535) (w : World) : Calls Try.prog 43 #[.int .u16 (c.toNat : Int), .string d] w (Gives (St (optL (c, d))) w) := by
  have RN := hide (fun W => run_ref d W)
  have PU := hide (fun W => put16_ref c.toNat c.toNat_lt W)
  obtain ⟨r1, r2⟩ := run_size hd
  have EO := hide (show optL (c, d) = beL 2 c.toNat ++ lb (runV d) by rw [r2]; rfl)
  have Z1 := beL_length 2 c.toNat
  have Z2 : (runV d).size ≤ 65537 := by rw [← lb_len, r2, List.length_append, beL_length, lb_len]; omega
  rw [r1] at RN
  generalize runV d = q at *
  generalize beL 2 c.toNat = m at *
  have N1 : ¬ 9223372036854775807 < m.length + q.size := by omega
  clear r1 r2 Z1 Z2 hd
  go_enter Try.func43, Try.ntmps43
  go_wp2_with fail
  refine (RN.out _).mono ?_
  rintro e w1 ⟨rfl, hb1⟩
  go_wp2_with fail
  refine (PU.out _).mono ?_
  rintro e w2 ⟨rfl, hb2⟩
  go_wp2
  go_ret
  exact ⟨congrArg Ending.returned (by rw [EO.out]; exact congrArg Value.string (cat1 m q)), chain hb1 hb2⟩
theorem stat_optL {c : Int} (h0 : 0 ≤ c) (h1 : c ≤ 65535) : emitL (statO c) = optL (13, bs (statV c)) := by
  rw [show statO c = [(13, bs (beL 2 c.toNat))] by unfold statO; rw [if_neg (by omega)], emitL_one]
  unfold statV
  rw [if_pos ⟨h0, h1⟩]
set_option maxRecDepth 100000 in
theorem rstatusOption_any (c : Int) (h1 : -1 ≤ c) (h2 : c ≤ 65535) (w : World) : Calls Try.prog 45 #[.int .i64 c] w (Gives (St (emitL (statO c))) w) := by
  by_cases h : c < 0
  · have E := hide (show emitL (statO c) = [] by rw [show c = -1 by omega]; rfl)
    go_enter Try.func45, Try.ntmps45
    go_wp2
    go_ret
    exact ⟨congrArg Ending.returned (by rw [E.out]; rfl), Below.refl _ _⟩
  · have E := hide (stat_optL (c := c) (by omega) h2)
    have PS := hide (fun W => rputStatus_any c W)
    have OP := hide (fun W => roption_any 13 (bs (statV c)) (by rw [bs_len]; unfold statV; split <;> simp [beL_length]) W)
    rw [← E.out] at OP
    generalize emitL (statO c) = es at *
    generalize statV c = sv at *
    go_enter Try.func45, Try.ntmps45
    go_wp2_with fail
    refine (PS.out _).mono ?_
    rintro e w1 ⟨rfl, hb1⟩
    go_wp2_with fail
    refine (OP.out _).mono ?_
    rintro e w2 ⟨rfl, hb2⟩
    go_wp2
    go_ret
    exact ⟨rfl, chain hb1 hb2⟩
set_option maxRecDepth 100000 in
theorem rcode_any (k : Int) (hk : k = 2 ∨ k = 3 ∨ k = 4) (w : World) : Calls Try.prog 46 #[.int .i64 k] w (Gives (.int .u16 ((codeK k).toNat : Int)) w) := by
  rcases hk with rfl | rfl | rfl
  all_goals
    go_enter Try.func46, Try.ntmps46
    go_wp2
    go_ret
    exact ⟨rfl, Below.refl _ _⟩
end Go.Proofs.Ytcpldojgmboipaa
