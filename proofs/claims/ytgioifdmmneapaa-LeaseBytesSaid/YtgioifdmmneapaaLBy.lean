/-
  LeaseBytes' walk. Conditions: the words are words of 64 bits; a slice has fewer than 2^63 elements.
-/
import Derived.Test.YtgioifdmmneapaaLQe
namespace Go.Proofs.Ytgioifdmmneapaa
open Go.RowKit Go.Joins

set_option maxRecDepth 100000 in
set_option maxHeartbeats 1000000 in
theorem bytesl_any {p : Option Go.Addr} {c : Nat} {l : List Ch} (ok : okL l) (hm : l.length ≤ maxLen) (w : World) (hl : LstC p l w) :
    Calls Try.prog 4 #[.slice p l.length c] w (Gives (.bool true) w) := by
  have HL := hide hl
  have N1 := hide (fun W (h : LstC p l W) => enc_any p c l ok hm W h)
  have N2 := hide (fun W (h : LstC p l W) => renc_any p c l ok W h)
  generalize encV l = t at *
  generalize encE l = er at *
  clear hl ok hm
  go_enter Try.func4, Try.ntmps4
  go_wp2_with fail
  refine (awake_any _).mono ?_
  rintro e w1 ⟨rfl, B1⟩
  go_wp2_with fail
  refine (N1.out _ (HL.out.step B1)).mono ?_
  rintro e w2 ⟨rfl, hb2⟩
  have B2 := chain B1 hb2
  clear hb2 B1
  go_wp2_with fail
  refine (N2.out _ (HL.out.step B2)).mono ?_
  rintro e w3 ⟨rfl, hb3⟩
  have B3 := chain B2 hb3
  clear hb3 B2
  go_wp2
  go_ret
  exact ⟨rfl, B3⟩
end Go.Proofs.Ytgioifdmmneapaa
