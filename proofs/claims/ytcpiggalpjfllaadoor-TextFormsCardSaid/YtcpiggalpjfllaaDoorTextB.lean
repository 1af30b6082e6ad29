/-
  The walk of the law TextBack: it returns true. Conditions: the library's variables hold what is laid; the words are words of 64 bits and an int is an int of 64 bits (every value of the types is such).
-/
import Derived.Test.YtcpiggalpjfllaaDoorTextBm
import Derived.Test.YtcpiggalpjfllaaDoorTextD
namespace Go.Proofs.YtcpiggalpjfllaaDoor
open Go.RowKit Go.Joins

theorem lim_small {l : List UInt8} (h : l.length ≤ 1000000) : Lim (ByteArray.mk l.toArray).size := by
  unfold Lim
  show l.length ≤ _
  omega
theorem hex_lim {s : ByteArray} (h : s.size ≤ 65536) : Lim (ByteArray.mk (hexL s.data.toList).toArray).size := by
  refine lim_small ?_
  rw [hexL_length]
  have : s.data.toList.length = s.size := rfl
  omega
theorem itoa_lim {m : Int} (h0 : -9223372036854775808 ≤ m) (h1 : m ≤ 9223372036854775807) : Lim (ByteArray.mk (Lib.itoa m).toArray).size := lim_small (by have := Lib.itoa_length_le m h0 h1; omega)
theorem pp_lim (fam : Int) (p : Nat) (n : Int) : Lim (ByteArray.mk (ppL fam p n).toArray).size := by
  refine lim_small ?_
  unfold ppL
  split
  · simp
  · rename_i h
    have hb : bitsN fam n ≤ 9223372036854775807 ∧ -9223372036854775808 ≤ bitsN fam n := by
      unfold bitsN
      simp only [IntKind.wrap_i64]
      omega
    have h2 := Lib.itoa_length_le (bitsN fam n) hb.2 hb.1
    have h3 := putL_short fam p
    simp only [List.length_append, List.length_cons, List.length_nil]
    omega
theorem back4 {m : Nat} (hm : m < 4294967296) (W : World) (hV : VO W) : Calls Tryd.prog 8 #[St (put4 m)] W (Gives (.tuple #[.int .u32 (m : Nat), .bool true]) W) :=
  via (get4_any ⟨(put4 m).toArray⟩ (lim_small (by have := put4_short m; omega)) W hV) (by obtain ⟨h1, h2⟩ := get4_some (get4_put4 hm); rw [h1, h2])
theorem back6 {a : Nat} (ha : Fits a) (W : World) (hV : VO W) : Calls Tryd.prog 10 #[St (put6L a)] W (Gives (.tuple #[A a, .bool true]) W) :=
  via (get6_any ⟨(put6L a).toArray⟩ (lim_small (by have := put6L_short a; omega)) W hV) (by obtain ⟨h1, h2⟩ := get6_some (get6_put6 ha); rw [h1, h2])
theorem backU {s : ByteArray} (hs : s.size ≤ 65536) (W : World) : Calls Tryd.prog 16 #[St (hexL s.data.toList)] W (Gives (.tuple #[.string s, .bool true]) W) :=
  via (unhex_any ⟨(hexL s.data.toList).toArray⟩ (hex_lim hs) W) (by obtain ⟨h1, h2⟩ := un_some (unhex_hex s.data.toList); rw [show (ByteArray.mk (hexL s.data.toList).toArray).data.toList = hexL s.data.toList from rfl, h1, h2])
theorem backN {m : Int} (h0 : 0 ≤ m) (h1 : m ≤ 4611686018427387904) (W : World) (hV : VO W) : Calls Tryd.prog 18 #[St (Lib.itoa m)] W (Gives (.tuple #[.int .i64 m, .bool true]) W) := by
  obtain ⟨k, rfl⟩ : ∃ k : Nat, m = k := ⟨m.toNat, by omega⟩
  exact via (getnum_any ⟨(Lib.itoa (k : Int)).toArray⟩ (itoa_lim (by omega) (by omega)) W hV) (by obtain ⟨e1, e2⟩ := gnum_some (gnum_itoa (n := k) (by omega)); rw [show (ByteArray.mk (Lib.itoa (k : Int)).toArray).data.toList = Lib.itoa (k : Int) from rfl, e1, e2])
theorem backP {fam : Int} {p : Nat} {n : Int} (hp : Fits p) (h : ppL fam p n ≠ []) (W : World) (hV : VO W) : Calls Tryd.prog 14 #[.int .i64 fam, St (ppL fam p n)] W (Gives (.tuple #[Pv p n, .bool true]) W) :=
  via (getprefix_any fam ⟨(ppL fam p n).toArray⟩ (pp_lim fam p n) W hV) (by obtain ⟨e1, e2, _⟩ := gp_pp hp h; rw [e1, e2])
theorem backQ {fam : Int} (h : fam = 4 ∨ fam = 6) (W : World) (hV : VO W) : Calls Tryd.prog 14 #[.int .i64 fam, .string ⟨#[]⟩] W (Gives (.tuple #[.agg #[.int .u64 0, .int .u64 0, .int .i64 0], .bool false]) W) :=
  via (getprefix_any fam ⟨#[]⟩ (lim_small (l := []) (by simp)) W hV) (by have e := gp_none fam h; unfold gpV; rw [show gpO fam ⟨#[]⟩ = false from e]; rfl)
theorem pp6_iff {p : Nat} {n : Int} : ppL 6 p n = [] ↔ soundS p n = false := by
  unfold ppL
  constructor
  · intro h
    split at h
    · rename_i hc
      rcases hc with e | e | e
      · exact absurd e (by unfold putL; rw [if_neg (by decide), if_pos rfl]; exact put6_ne p)
      · cases hs : soundS p n with
        | false => rfl
        | true =>
          obtain ⟨b0, b1⟩ := sound_bounds hs
          rw [bits_small b0 b1] at e
          unfold outS at e
          rw [if_neg (by decide)] at e
          omega
      · exact e
    · simp at h
  · intro h
    rw [if_pos (Or.inr (Or.inr h))]

/-- the counter of a loop of two rounds -/
def Ix012 (v : Value) : Prop := v = .int .i64 0 ∨ v = .int .i64 1 ∨ v = .int .i64 2
theorem ix_fam (W : World) : (Instr.index 44 (.agg #[.int .i64 4, .int .i64 6]) (.int .i64 0)).run Tryd.prog W = .ok (.int .i64 4) W ∧ (Instr.index 44 (.agg #[.int .i64 4, .int .i64 6]) (.int .i64 1)).run Tryd.prog W = .ok (.int .i64 6) W := ⟨by kernel_rfl, by kernel_rfl⟩
/-- what PutPrefix and GetPrefix of its text give in a family, the text under one name -/
def Shown (fam : Int) (p : Nat) (n : Int) (t : ByteArray) : Prop :=
  (∀ W, VO W → Calls Tryd.prog 23 #[.int .i64 fam, Pv p n] W (Gives (.string t) W)) ∧ (∀ W, VO W → Calls Tryd.prog 14 #[.int .i64 fam, .string t] W (Gives (.tuple #[Pv p n, .bool true]) W)) ∧ t.toList.isEmpty = false
def Blank (fam : Int) (p : Nat) (n : Int) : Prop :=
  (∀ W, VO W → Calls Tryd.prog 23 #[.int .i64 fam, Pv p n] W (Gives (.string ⟨#[]⟩) W)) ∧ (∀ W, VO W → Calls Tryd.prog 14 #[.int .i64 fam, .string ⟨#[]⟩] W (Gives (.tuple #[.agg #[.int .u64 0, .int .u64 0, .int .i64 0], .bool false]) W))
theorem blank_of {fam : Int} {p : Nat} {n : Int} (hp : Fits p) (hf : fam = 4 ∨ fam = 6) (h : ppL fam p n = []) : Blank fam p n :=
  ⟨fun W hV => via (putprefix_any fam hp W hV) (by rw [h]), fun W hV => backQ hf W hV⟩
theorem shown_of {fam : Int} {p : Nat} {n : Int} (hp : Fits p) (h : ppL fam p n ≠ []) : ∃ t, Shown fam p n t := by
  refine ⟨⟨(ppL fam p n).toArray⟩, fun W hV => putprefix_any fam hp W hV, fun W hV => backP hp h W hV, ?_⟩
  rw [ByteArray.toList_eq]
  simpa using h

set_option maxRecDepth 100000 in
set_option maxHeartbeats 2000000 in
theorem back_any {p : Nat} {n : Int} (hp : Fits p) (n0 : -9223372036854775808 ≤ n) (n1 : n ≤ 9223372036854775807) (s : ByteArray) (w : World) (hv : VO w) :
    Calls Tryd.prog 4 #[Pv p n, .string s] w (Gives (.bool true) w) := by
  have AW := hide (fun W hV => awake2_any W hV)
  by_cases hl : (s.size : Int) > 65536
  · go_enter Tryd.func4, Tryd.ntmps4
    go_wp2_with fail
    have H0 := hpf_new w p n 33
    refine (AW.out _ (VO.step H0.1 hv)).mono ?_
    rintro e w1 ⟨rfl, hb1⟩
    have H1 := H0.step hb1
    clear hb1 H0
    go_wp2_with fail
    refine (AW.out _ (VO.step H1.1 hv)).mono ?_
    rintro e w2 ⟨rfl, hb2⟩
    go_wp2
    go_ret
    exact ⟨rfl, (H1.step hb2).1⟩
  · have hs : s.size ≤ 65536 := by omega
    have hsl : Lim s.size := by unfold Lim; omega
    have E4 := hide (show ((lo p : Nat) : Int) % 4294967296 = ((lo p % 4294967296 : Nat) : Int) by omega)
    have P4 := hide (put4_any (lo p % 4294967296) (by omega))
    have B4 := hide (back4 (m := lo p % 4294967296) (by omega))
    have P6 := hide (put6_any hp)
    have B6 := hide (back6 hp)
    have HX := hide (hex_any s hsl)
    have BU := hide (backU hs)
    have NM := hide (num_any n n0 n1)
    have BN := hide (fun (h0 : 0 ≤ n) (h1 : n ≤ 4611686018427387904) => backN h0 h1)
    have K4 := hide (blank_of (fam := 4) (n := n) hp (Or.inl rfl))
    have K6 := hide (blank_of (fam := 6) (n := n) hp (Or.inr rfl))
    have S4 := hide (shown_of (fam := 4) (n := n) hp)
    have S6 := hide (shown_of (fam := 6) (n := n) hp)
    have SD := hide (sound_any hp n)
    have S0 := hide (pp6_iff (p := p) (n := n))
    clear hs hsl
    go_enter Tryd.func4, Tryd.ntmps4
    go_wp2_with fail
    have H0 := hpf_new w p n 33
    refine (AW.out _ (VO.step H0.1 hv)).mono ?_
    rintro e w1 ⟨rfl, hb1⟩
    have H1 := H0.step hb1
    clear hb1 H0
    obtain ⟨_, z0, c0, c1, c2⟩ := id H1
    go_wp2_with fail
    clear z0 c0 c1 c2
    rw [E4.out]
    generalize lo p % 4294967296 = m at P4 B4 ⊢
    refine (P4.out _ (VO.step H1.1 hv)).mono ?_
    rintro e w2 ⟨rfl, hb2⟩
    have H2 := H1.step hb2
    clear hb2 H1
    go_wp2_with fail
    refine (B4.out _ (VO.step H2.1 hv)).mono ?_
    rintro e w3 ⟨rfl, hb3⟩
    have H3 := H2.step hb3
    clear hb3 H2
    obtain ⟨_, z0, c0, c1, c2⟩ := id H3
    go_wp2_with fail
    clear z0 c0 c1 c2
    refine (P6.out _ (VO.step H3.1 hv)).mono ?_
    rintro e w4 ⟨rfl, hb4⟩
    have H4 := H3.step hb4
    clear hb4 H3
    go_wp2_with fail
    refine (B6.out _ (VO.step H4.1 hv)).mono ?_
    rintro e w5 ⟨rfl, hb5⟩
    have H5 := H4.step hb5
    clear hb5 H4
    go_wp2_with fail
    have T6 := two_new w5 p 28
    have H6 := H5.step (below_alloc w5 (.cells #[.int .u64 (hi p : Nat), .int .u64 (lo p : Nat)] 28))
    clear H5
    refine (HX.out _).mono ?_
    rintro e w7 ⟨rfl, hb7⟩
    have H7 := H6.step hb7
    have T7 := T6.step hb7
    clear hb7 H6 T6
    go_wp2_with fail
    refine (BU.out _).mono ?_
    rintro e w8 ⟨rfl, hb8⟩
    have H8 := H7.step hb8
    have T8 := T7.step hb8
    clear hb8 H7 T7
    obtain ⟨_, z0, c0, c1, c2⟩ := id H8
    obtain ⟨t0, t1, _, _, _⟩ := id T8
    go_wp2
    clear z0 c0 c1 c2 t0 t1 T8
    go_loopw [12] (fun i wr => Ix012 i ∧ HPf w p n wr) (fun i _ => 2 - (intOf i).toNat)
    case atStart => exact ⟨Or.inl rfl, H8⟩
    case round =>
      obtain ⟨hi, HR⟩ := hrel
      clear H8
      have IX := hide ix_fam
      rcases hi with rfl | rfl | rfl
      · have I0 := fun W => (IX.out W).1
        clear IX
        by_cases ht : ppL 4 p n = []
        · obtain ⟨k1, k2⟩ := K4.out ht
          have k1 := hide k1
          have k2 := hide k2
          clear ht
          obtain ⟨_, z0, c0, c1, c2⟩ := id HR
          go_wp2_with fail
          clear z0 c0 c1 c2
          refine (k1.out _ (VO.step HR.1 hv)).mono ?_
          rintro e w9 ⟨rfl, hb9⟩
          have H9 := HR.step hb9
          clear hb9 HR
          go_wp2_with fail
          refine (k2.out _ (VO.step H9.1 hv)).mono ?_
          rintro e w10 ⟨rfl, hb10⟩
          have H10 := H9.step hb10
          clear hb10 H9
          have H11 := H10.step (below_alloc w10 (.cells #[.int .u64 0, .int .u64 0, .int .i64 0] 33))
          obtain ⟨_, z0, c0, c1, c2⟩ := id H10
          go_wp2
          go_roundw
          case rel => exact ⟨Or.inr (Or.inl rfl), H11⟩
          case measure => simp [intOf]
        · obtain ⟨t, k1, k2, k3⟩ := S4.out ht
          have k1 := hide k1
          have k2 := hide k2
          clear ht
          obtain ⟨_, z0, c0, c1, c2⟩ := id HR
          go_wp2_with fail
          clear z0 c0 c1 c2
          refine (k1.out _ (VO.step HR.1 hv)).mono ?_
          rintro e w9 ⟨rfl, hb9⟩
          have H9 := HR.step hb9
          clear hb9 HR
          go_wp2_with fail
          refine (k2.out _ (VO.step H9.1 hv)).mono ?_
          rintro e w10 ⟨rfl, hb10⟩
          have H10 := H9.step hb10
          clear hb10 H9
          have H11 := H10.step (below_alloc w10 (.cells #[.int .u64 (hi p : Nat), .int .u64 (lo p : Nat), .int .i64 n] 33))
          obtain ⟨_, z0, c0, c1, c2⟩ := id H10
          go_wp2
          go_roundw
          case rel => exact ⟨Or.inr (Or.inl rfl), H11⟩
          case measure => simp [intOf]
      · have I0 := fun W => (IX.out W).2
        clear IX
        by_cases ht : ppL 6 p n = []
        · obtain ⟨k1, k2⟩ := K6.out ht
          have k1 := hide k1
          have k2 := hide k2
          have e0 := S0.out.1 ht
          have SF := hide (fun W => via (sound_any hp n W) (v' := .bool false) (by rw [e0]))
          clear e0
          clear ht
          obtain ⟨_, z0, c0, c1, c2⟩ := id HR
          go_wp2_with fail
          clear z0 c0 c1 c2
          refine (k1.out _ (VO.step HR.1 hv)).mono ?_
          rintro e w9 ⟨rfl, hb9⟩
          have H9 := HR.step hb9
          clear hb9 HR
          go_wp2_with fail
          refine (k2.out _ (VO.step H9.1 hv)).mono ?_
          rintro e w10 ⟨rfl, hb10⟩
          have H10 := H9.step hb10
          clear hb10 H9
          have H11 := H10.step (below_alloc w10 (.cells #[.int .u64 0, .int .u64 0, .int .i64 0] 33))
          obtain ⟨_, z0, c0, c1, c2⟩ := id H10
          go_wp2_with fail
          clear z0 c0 c1 c2
          refine (SF.out _).mono ?_
          rintro e w11 ⟨rfl, hb11⟩
          have H12 := H11.step hb11
          clear hb11 H11
          go_wp2
          go_roundw
          case rel => exact ⟨Or.inr (Or.inr rfl), H12⟩
          case measure => simp [intOf]
        · obtain ⟨t, k1, k2, k3⟩ := S6.out ht
          have k1 := hide k1
          have k2 := hide k2
          have e0 : soundS p n = true := by
            cases e : soundS p n with
            | true => rfl
            | false => exact absurd (S0.out.2 e) ht
          have SF := hide (fun W => via (sound_any hp n W) (v' := .bool true) (by rw [e0]))
          clear e0
          clear ht
          obtain ⟨_, z0, c0, c1, c2⟩ := id HR
          go_wp2_with fail
          clear z0 c0 c1 c2
          refine (k1.out _ (VO.step HR.1 hv)).mono ?_
          rintro e w9 ⟨rfl, hb9⟩
          have H9 := HR.step hb9
          clear hb9 HR
          go_wp2_with fail
          refine (k2.out _ (VO.step H9.1 hv)).mono ?_
          rintro e w10 ⟨rfl, hb10⟩
          have H10 := H9.step hb10
          clear hb10 H9
          have H11 := H10.step (below_alloc w10 (.cells #[.int .u64 (hi p : Nat), .int .u64 (lo p : Nat), .int .i64 n] 33))
          obtain ⟨_, z0, c0, c1, c2⟩ := id H10
          go_wp2_with fail
          clear z0 c0 c1 c2
          refine (SF.out _).mono ?_
          rintro e w11 ⟨rfl, hb11⟩
          have H12 := H11.step hb11
          clear hb11 H11
          go_wp2
          go_roundw
          case rel => exact ⟨Or.inr (Or.inr rfl), H12⟩
          case measure => simp [intOf]
      · by_cases h0 : n < 0
        · obtain ⟨_, z0, c0, c1, c2⟩ := id HR
          go_wp2
          go_ret
          exact ⟨rfl, HR.1⟩
        · by_cases h1 : n > 4611686018427387904
          · obtain ⟨_, z0, c0, c1, c2⟩ := id HR
            go_wp2
            go_ret
            exact ⟨rfl, HR.1⟩
          · have bn := hide (BN.out (by omega) (by omega))
            obtain ⟨_, z0, c0, c1, c2⟩ := id HR
            go_wp2_with fail
            clear z0 c0 c1 c2
            refine (NM.out _ (VO.step HR.1 hv)).mono ?_
            rintro e w9 ⟨rfl, hb9⟩
            have H9 := HR.step hb9
            clear hb9 HR
            go_wp2_with fail
            refine (bn.out _ (VO.step H9.1 hv)).mono ?_
            rintro e w10 ⟨rfl, hb10⟩
            have H10 := H9.step hb10
            clear hb10 H9
            obtain ⟨_, z0, c0, c1, c2⟩ := id H10
            go_wp2
            go_ret
            exact ⟨rfl, H10.1⟩
end Go.Proofs.YtcpiggalpjfllaaDoor
