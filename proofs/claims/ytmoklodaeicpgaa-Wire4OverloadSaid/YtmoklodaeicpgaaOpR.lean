/-
  The contract of read. Conditions: an area has at most 2^60 bytes; at most 128 options of at most 4096 bytes each are gathered.
-/
import Derived.Test.YtmoklodaeicpgaaOpP
namespace Go.Proofs.Ytmoklodaeicpgaa
open Go.RowKit Go.Joins Go.Maps

def Reads (base g : Nat) (S : Gs) (l : List UInt8) (w : World) (e : Ending) (w2 : World) : Prop := Below base w w2 ∧ e = .returned (.int .i64 ((readA l S).1 : Nat)) ∧ ((readA l S).1 = 0 → GAt w2 base g (readA l S).2)
theorem drop_at (s : ByteArray) (a : Nat) (h : a < s.size) : (lb s).drop a = s[a] :: (lb s).drop (a + 1) := List.drop_eq_getElem_cons (by rw [lb_len]; exact h)
theorem byte_ne {b c : UInt8} (h : b ≠ c) : ¬ (b.toNat : Int) = (c.toNat : Int) := fun e => h (UInt8.toNat_inj.1 (by omega))
set_option maxRecDepth 100000 in
set_option maxHeartbeats 2000000 in
theorem read_any (s : ByteArray) (hs : s.size ≤ 1152921504606846976) {base g : Nat} {S : Gs} (w : World) (hS : GAt w base g S) (hI : GInv S) :
    Calls Try.prog 40 #[Pt g, .string s] w (Reads base g S (lb s) w) := by
  have H0 : ∃ S2, GAt w base g S2 ∧ GInv S2 ∧ readA ((lb s).drop 0) S2 = readA (lb s) S := ⟨S, hS, hI, rfl⟩
  clear hI hS
  generalize hR : readA (lb s) S = R at *
  have HR := hide hR
  clear hR
  go_enter Try.func40, Try.ntmps40
  go_wp2
  go_loopw [5] (fun vi wr => ∃ a : Nat, a ≤ s.size ∧ vi = .int .i64 (a : Nat) ∧ Below base w wr ∧ Hid (∃ S2, GAt wr base g S2 ∧ GInv S2 ∧ readA ((lb s).drop a) S2 = R)) (fun vi _ => s.size - (intOf vi).toNat)
  case atStart => exact ⟨0, Nat.zero_le _, rfl, Below.refl _ _, hide H0⟩
  case round =>
    obtain ⟨a, ha, rfl, HB, HH⟩ := hrel
    clear H0
    by_cases hlt : a < s.size
    · have hd := drop_at s a hlt
      by_cases h255 : s[a] = 255
      · have P1 : (s[a].toNat : Int) = 255 := by rw [h255]; rfl
        have F := hide (show R.1 = 0 ∧ GAt wr base g R.2 by
          obtain ⟨S2, k1, _, k3⟩ := HH.out
          rw [hd, h255, readA_end] at k3
          rw [← k3]; exact ⟨rfl, k1⟩)
        clear hd h255 HH
        go_wp2
        go_ret
        exact ⟨HB, by rw [HR.out, F.out.1]; rfl, fun _ => by rw [HR.out]; exact F.out.2⟩
      · have P1 : ¬ (s[a].toNat : Int) = 255 := byte_ne h255
        by_cases h0 : s[a] = 0
        · have P2 : (s[a].toNat : Int) = 0 := by rw [h0]; rfl
          have F := hide (show ∃ S2, GAt wr base g S2 ∧ GInv S2 ∧ readA ((lb s).drop (a + 1)) S2 = R by
            obtain ⟨S2, k1, k2, k3⟩ := HH.out
            rw [hd, h0, readA_pad] at k3
            exact ⟨S2, k1, k2, k3⟩)
          clear hd h255 HH h0
          go_wp2
          go_roundw
          case rel => exact ⟨a + 1, hlt, by go_num, HB, F⟩
          case measure => simp [intOf]; omega
        · have P2 : ¬ (s[a].toNat : Int) = 0 := byte_ne h0
          have TK := hide (fun W => take_any s hs (a + 1) hlt W)
          have HD := hide hd
          have N0 := hide h0
          have N255 := hide h255
          clear hd h0 h255
          go_wp2_with fail
          have TK2 := TK.out wr
          refine TK2.mono ?_
          rintro e w' ⟨rfl, h⟩
          rcases h with ⟨k, r, hr, hk, rfl⟩ | ⟨hno, n, rfl⟩
          · have hp : (bs (r.take k.toNat)).size ≤ 255 := by
              rw [bs_size, List.length_take]
              have := k.toNat_lt
              omega
            have hle : a + 1 + 1 + k.toNat ≤ s.size := by
              have := congrArg List.length hr
              rw [List.length_drop, lb_len, List.length_cons] at this
              omega
            have AD := hide (show ∃ S2, GAt wr base g S2 ∧ GInv S2 ∧ readA (s[a] :: k :: r) S2 = R by rw [← hr, ← HD.out]; exact HH.out)
            have HRR := hide (show r.drop k.toNat = (lb s).drop (a + 1 + 1 + k.toNat) by rw [← List.drop_drop, ← List.drop_drop (i := 1), hr]; rfl)
            obtain ⟨S2, k1, k2, k3⟩ := AD.out
            have AA := hide (add_any k1 k2 s[a] (bs (r.take k.toNat)) hp)
            have K3 := hide k3
            have K2 := hide k2
            have HK := hide hk
            have hpb : lb (bs (r.take k.toNat)) = r.take k.toNat := lb_bs _
            have HPB := hide hpb
            clear AD k1 k2 k3 hk hr HH hpb
            generalize bs (r.take k.toNat) = q at *
            go_wp2_with fail
            refine AA.out.mono ?_
            rintro e w2 ⟨hb2, h⟩
            rcases h with ⟨ha6, rfl⟩ | ⟨S3, ha3, rfl, hg3⟩
            · have F := hide (show R.1 = 6 by
                have h6 := ha6
                rw [HPB.out] at h6
                rw [← K3.out, readA_long N255.out N0.out HK.out h6])
              have HB2 := hide (HB.trans hb2)
              go_wp2
              go_ret
              exact ⟨HB2.out, by rw [HR.out, F.out]; rfl, fun h => by rw [HR.out, F.out] at h; cases h⟩
            · have F := hide (show ∃ S2, GAt w2 base g S2 ∧ GInv S2 ∧ readA ((lb s).drop (a + 1 + 1 + k.toNat)) S2 = R by
                have h3 := ha3
                rw [HPB.out] at h3
                refine ⟨S3, hg3, ginv_add K2.out N0.out N255.out ha3, ?_⟩
                rw [← HRR.out, ← readA_add N255.out N0.out HK.out h3, K3.out])
              have HB2 := hide (HB.trans hb2)
              clear ha3 hg3 hb2
              go_wp2
              go_roundw
              case rel => exact ⟨a + 1 + 1 + k.toNat, hle, rfl, HB2.out, F⟩
              case measure => simp [intOf]; omega
          · have F := hide (show R.1 = 3 by
              obtain ⟨S2, k1, k2, k3⟩ := HH.out
              rw [← k3, HD.out]
              rcases hno with h | ⟨k, r, h, hk⟩
              · rw [h, readA_cut N255.out N0.out]
              · rw [h, readA_short N255.out N0.out hk])
            clear hno HH
            go_wp2
            go_ret
            exact ⟨HB, by rw [HR.out, F.out]; rfl, fun h => by rw [HR.out, F.out] at h; cases h⟩
    · have F := hide (show R.1 = 0 ∧ GAt wr base g R.2 by
        obtain ⟨S2, k1, _, k3⟩ := HH.out
        rw [List.drop_of_length_le (by rw [lb_len]; omega), readA_nil] at k3
        rw [← k3]; exact ⟨rfl, k1⟩)
      clear HH
      go_wp2
      go_ret
      exact ⟨HB, by rw [HR.out, F.out.1]; rfl, fun _ => by rw [HR.out]; exact F.out.2⟩
end Go.Proofs.Ytmoklodaeicpgaa
