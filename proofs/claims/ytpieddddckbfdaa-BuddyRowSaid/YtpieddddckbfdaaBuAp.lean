/-
  Contract of the law's own apart where blocks are kept (Keeps): it returns true. Condition: at most 100000 free blocks, at most 1000 taken ones; the words are words of 64 bits, an int is an int of 64 bits.
-/
import Derived.Test.YtpieddddckbfdaaBuQ
import Derived.Test.YtpieddddckbfdaaBRef
import Derived.Deep.DeepCutAuto
import Derived.OwnWalk
namespace Go.Proofs.Ytpieddddckbfdaa
open Go.RowKit Go.Joins

theorem eqA_run (a b : Nat) (w : World) : (binOp .eql 24 (A a) (A b)).run Try.prog w = .ok (.bool ((((hi a : Nat) : Int) == ((hi b : Nat) : Int)) && (((lo a : Nat) : Int) == ((lo b : Nat) : Int)))) w := by
  rw [run_eql_struct, show (10000 : Nat) = 9997 + 1 + 1 + 1 from rfl, run_equalIn_agg w _ 24 _ _ (by kernel_rfl) (by kernel_rfl)]
  simp only [Program.fieldsOf, Try.underlying24]
  have p0 : ∀ (a b : Int) w, (part 22 #[.int .u64 a, .int .u64 b] 0).run Try.prog w = .ok (.int .u64 a) w := fun _ _ _ => by kernel_rfl
  have p1 : ∀ (a b : Int) w, (part 22 #[.int .u64 a, .int .u64 b] 1).run Try.prog w = .ok (.int .u64 b) w := fun _ _ _ => by kernel_rfl
  have q0 : ∀ (a b : Int) w, (Op.equalIn (9997 + 1 + 1) 22 (.int .u64 a) (.int .u64 b)).run Try.prog w = .ok (a == b) w := fun _ _ _ => by kernel_rfl
  simp only [Op.eqFields, Sem.run_bind, Sem.run_ite, p0, p1, q0, Result.andThen_ok]
  generalize (((hi a : Nat) : Int) == ((hi b : Nat) : Int)) = r0
  generalize (((lo a : Nat) : Int) == ((lo b : Nat) : Int)) = r1
  cases r0 <;> cases r1 <;> rfl
theorem eqA_same (a : Nat) (w : World) : (binOp .eql 24 (A a) (A a)).run Try.prog w = .ok (.bool true) w := by
  rw [eqA_run]
  simp
theorem sz_le (x : Bk) : szB x ≤ 340282366920938463463374607431768211456 := by
  unfold szB
  have : 2 ^ (128 - x.2.toNat) ≤ 2 ^ 128 := Nat.pow_le_pow_right (by omega) (by omega)
  exact Nat.le_trans this (by decide)
/-- one less than how many addresses a block has -/
theorem less_of {x : Bk} (sx : sndB x = true) : subS (lastA x.1 x.2) (firstA x.1 x.2) = szB x - 1 := by
  have h := sz_le x
  have hp := szB_pos x
  unfold lastA firstA
  rw [if_pos (show soundS x.1 x.2 = true from sx), if_pos (show soundS x.1 x.2 = true from sx)]
  unfold lastS subS
  change (x.1 + (szB x - 1) + 340282366920938463463374607431768211456 - x.1) % 340282366920938463463374607431768211456 = szB x - 1
  omega
theorem size_of {x : Bk} : addS (szB x - 1) 1 = szB x % 340282366920938463463374607431768211456 := by
  have hp := szB_pos x
  unfold addS
  congr 1
  omega
theorem sum_next {L : List Bk} {k : Nat} {x : Bk} (hx : L[k]? = some x) : addS (sumB (L.take k) % 340282366920938463463374607431768211456) (szB x % 340282366920938463463374607431768211456) = sumB (L.take (k + 1)) % 340282366920938463463374607431768211456 := by
  rw [List.take_add_one, hx, sumB_append]
  simp only [Option.toList_some, sumB]
  unfold addS
  omega
theorem one_word : A 1 = .agg #[.int .u64 0, .int .u64 1] := by simp [hi, lo]
/-- the sum's box, in memory behind w -/
def HP (w : World) (s : Nat) (W : World) : Prop := Below w.heap.size w W ∧ Two w.heap.size s W
theorem HP.step {w : World} {s : Nat} {W w2 : World} (h : HP w s W) (hb : Below W.heap.size W w2) : HP w s w2 := ⟨chain h.1 hb, h.2.step hb⟩
theorem two_all {g a : Nat} {W : World} (h : Two g a W) : W.cell? ⟨g, 0, none⟩ = some (.int .u64 (hi a : Nat)) ∧ W.cell? ⟨g, 1, none⟩ = some (.int .u64 (lo a : Nat)) ∧ W.frozen? ⟨g, 0, none⟩ = false ∧ W.frozen? ⟨g, 1, none⟩ = false ∧ g < W.heap.size := h
theorem fits_firstA {p : Nat} (hp : Fits p) (n : Int) : Fits (firstA p n) := by
  unfold firstA
  split
  · exact hp
  · unfold Fits; omega
theorem fits_lastA {p : Nat} (hp : Fits p) (n : Int) : Fits (lastA p n) := by
  unfold lastA
  split
  · rename_i h
    obtain ⟨⟨h0, h1⟩, hc⟩ := sound_iff.1 h
    exact fits_lastS hp hc (by omega)
  · unfold Fits; omega
theorem fits_less (x : Bk) : Fits (szB x - 1) := by
  have := sz_le x
  have := szB_pos x
  unfold Fits
  omega
theorem fits_mod (n : Nat) : Fits (n % 340282366920938463463374607431768211456) := by unfold Fits; omega

set_option maxRecDepth 100000 in
set_option maxHeartbeats 4000000 in
theorem apart_yes {vf vt : Value} {p : Bk} {F T : List Bk} (fp : FitB p) (hk : Keeps p F T) (nF : F.length ≤ 100000) (nT : T.length ≤ 1000) (w : World) (hvf : Lst vf F w) (hvt : Lst vt T w) :
    Calls Try.prog 23 #[Bv p, vf, vt] w (Gives (.bool true) w) := by
  obtain ⟨i0, hi0, hz0, hz1, hz2⟩ := info_parts infoP
  obtain ⟨fF, fT⟩ := keeps_fit fp.1 hk
  have GD := hide (fun W v (H : Lst v F W) => via (good_any fp fF (show F.length ≤ 1000000 by omega) W H) (v' := .bool true) (by rw [hk.good]))
  have sp := (good_iff.1 hk.good).1
  have K0 := hsk_new w p hvf
  have KT := hvt.step K0.1
  obtain ⟨qf, cf, rfl⟩ := lst_len hvf
  obtain ⟨qt, ct, rfl⟩ := lst_len hvt
  clear hvf hvt
  obtain ⟨L, hL⟩ : ∃ L, L = F ++ T := ⟨_, rfl⟩
  have hlen : F.length + T.length = L.length := by rw [hL]; simp
  have fL : FitL L := by
    rw [hL]
    intro x hx
    rcases List.mem_append.1 hx with h | h
    · exact fF x h
    · exact fT x h
  have cL : ∀ x ∈ L, covB p x = true := by
    rw [hL]
    intro x hx
    rcases List.mem_append.1 hx with h | h
    · exact (good_iff.1 hk.good).2.1.1 x h
    · exact hk.cov x h
  have mL := hk.met
  have sL := hk.sum
  rw [← hL] at mL sL
  have MPR := hide (fun (m k : Nat) (x y : Bk) (hm : m < k) (hx : L[k]? = some x) (hy : L[m]? = some y) => (show metB x y = false by
    obtain ⟨k1, rfl⟩ := List.getElem?_eq_some_iff.1 hx
    obtain ⟨m1, rfl⟩ := List.getElem?_eq_some_iff.1 hy
    rw [met_comm]
    exact List.pairwise_iff_getElem.1 (mets_iff.1 mL) m k m1 k1 hm))
  have SPN := hide (fun W => span_any fp.1 p.2 W)
  have LP := hide (less_of sp)
  have HL := hide hL
  clear hk mL fF fT
  go_enter Try.func23, Try.ntmps23
  go_upto_region 1 with fail
  generalize w.alloc (.cells #[.int .u64 (hi p.1 : Nat), .int .u64 (lo p.1 : Nat), .int .i64 p.2] 26) = V at *
  have nL : L.length ≤ 101000 := by omega
  generalize hnL : L.length = n at *
  clear hL
  generalize hnF : F.length = nf at *
  generalize hnT : T.length = nt at *
  have HF := hide hnF
  have HT' := hide hnT
  have HN := hide hnL
  clear hnF hnT hnL
  have WN : IntKind.i64.wrap ((nf : Int) + (nt : Int)) = (n : Int) := by rw [IntWalk.i64_in _ ⟨by omega, by omega⟩]; omega
  go_wp2_with (first
    | (at_make; refine wpList_make_own _ rfl _ _ 27 rfl V.heap.size 26 i0 (.agg #[.int .u64 0, .int .u64 0, .int .i64 0]) 3 Try.underlying27 hi0 hz0 hz1 _ _ _ n rfl rfl (by omega) (by rw [hz2]; omega) (by unfold maxLen; omega) (Nat.le_refl _) ?_; intro w3 hown3 hgrow3; have B3 : Below V.heap.size V w3 := (Below.refl _ _).grown hgrow3 (Nat.le_refl _) (fun k h => by cases h); have S3 := K0.2.2.step B3; clear hgrow3)
    | (at_builtin; refine wpList_append_lst rfl (.tmp 23) (.tmp 24) rfl V.heap.size _ [] rfl hown3 _ F rfl S3 (by have := HF.out; simp; omega) B3.size ?_; intro v4 w4 O4 HB4 hg4; clear hg4; have B4 := B3.trans HB4; rw [List.nil_append] at O4; have S4 := KT.step B4; clear hown3 S3 B3 HB4)
    | (at_builtin; refine wpList_append_lst rfl (.tmp 26) (.tmp 27) rfl V.heap.size _ F rfl O4 _ T rfl S4 (by have := HF.out; have := HT'.out; omega) B4.size ?_; intro v5 w5 O5 HB5 hg5; clear hg5; have B5 := B4.trans HB5; rw [← HL.out] at O5; clear O4 S4 B4 HB5))
  obtain ⟨p5, c5, rfl⟩ := lst_len (own_lst O5)
  have K5 := K0.step B5
  have L5 := own_lst O5
  have HP0 : HP w5 (sumB (L.take 0) % 340282366920938463463374607431768211456) (w5.alloc (.cells #[.int .u64 0, .int .u64 0] 24)) := by
    refine ⟨below_alloc _ _, ?_⟩
    rw [List.take_zero, sumB, Nat.zero_mod]
    exact two_zero w5 _
  have KV := hide (fun W (H : Below w5.heap.size w5 W) => K5.step H)
  have LV := hide (fun W (H : Below w5.heap.size w5 W) => L5.step H)
  have BW5 := K5.1
  rw [HN.out] at L5 LV ⊢
  have L5' := hide L5
  clear O5 B5 K5 L5 K0 KT
  go_loopw [9] (fun i wr => ∃ k : Nat, k ≤ n ∧ i = .int .i64 (k : Nat) ∧ HP w5 (sumB (L.take k) % 340282366920938463463374607431768211456) wr) (fun i _ => n - (intOf i).toNat)
  case atStart => exact ⟨0, Nat.zero_le _, rfl, HP0⟩
  case round =>
    obtain ⟨k, hk, rfl, HB⟩ := hrel
    clear HP0
    by_cases hlt : k < n
    · have hkL : k < L.length := by have := HN.out; omega
      obtain ⟨x, hx⟩ := get_some hkL
      have fx := fit_at fL hx
      have cx := cL x (List.mem_of_getElem? hx)
      have sx := (cov_iff.1 cx).2.1
      have CV := hide (fun W => via (covers_any (p := p.1) fx.1 p.2 x.2 W) (v' := .bool true) (by rw [show coversS p.1 p.2 x.1 x.2 = true from cx]))
      have SX := hide (fun W => span_any fx.1 x.2 W)
      have LX := hide (less_of sx)
      have SN := hide (sum_next hx)
      have MX := hide (fun (m : Nat) (y : Bk) (hm : m < k) (hy : L[m]? = some y) => MPR.out m k x y hm hx hy)
      obtain ⟨b, o, rfl, _⟩ := lst_at L5'.out hx
      have HX := hide (fun W (H : Below w5.heap.size w5 W) => lst_at (LV.out W H) hx)
      clear hx cx sx hkL
      have fs := fits_mod (sumB (L.take k))
      generalize sumB (L.take k) % 340282366920938463463374607431768211456 = s at *
      go_wp2_with fail
      refine wp_region_quiet (C := HP w5 s) (by kernel_rfl) (by kernel_rfl) (HB.step (Below.refl _ _).drew) (wpQuiet_step (fun K0 hK0 => ?_))
      go_simp
      refine ⟨Bv p, fun W hW => ?_, hK0 _ (wpQuiet_step (fun K1 hK1 => ?_))⟩
      · ((obtain ⟨_, ⟨_, ⟨u0, u1, u2⟩, _⟩, _⟩ := KV.out W hW.1; simp [go_sem, u0, u1, u2]))
      clear hK0 K0
      go_simp
      first | (with_reducible refine hK1 _ (wpQuiet_step (fun K0 hK0 => ?_))) | (with_reducible refine ⟨_, fun _ _ => rfl, hK1 _ (wpQuiet_step (fun K0 hK0 => ?_))⟩) | (rw [if_neg (by intro e; cases e)]; with_reducible refine hK1 _ (wpQuiet_step (fun K0 hK0 => ?_)))
      clear hK1 K1
      go_simp
      first | (with_reducible refine hK0 _ (wpQuiet_step (fun K1 hK1 => ?_))) | (with_reducible refine ⟨_, fun _ _ => rfl, hK0 _ (wpQuiet_step (fun K1 hK1 => ?_))⟩) | (rw [if_neg (by intro e; cases e)]; with_reducible refine hK0 _ (wpQuiet_step (fun K1 hK1 => ?_)))
      clear hK0 K0
      go_simp
      first | (with_reducible refine hK1 _ (wpQuiet_step (fun K0 hK0 => ?_))) | (with_reducible refine ⟨_, fun _ _ => rfl, hK1 _ (wpQuiet_step (fun K0 hK0 => ?_))⟩) | (rw [if_neg (by intro e; cases e)]; with_reducible refine hK1 _ (wpQuiet_step (fun K0 hK0 => ?_)))
      clear hK1 K1
      go_simp
      refine ⟨Bv x, fun W hW => ?_, hK0 _ (wpQuiet_step (fun K1 hK1 => ?_))⟩
      · ((obtain ⟨_, _, eb, _, u0, u1, u2⟩ := HX.out W hW.1; cases eb; simp [go_sem, u0, u1, u2]))
      clear hK0 K0
      go_simp
      refine ⟨.bool true, fun W hW => ?_, hK1 _ (wpQuiet_step (fun K0 hK0 => ?_))⟩
      · exact (CV.out W).mono fun e w2 ⟨he, hb⟩ => ⟨he, HP.step hW hb⟩
      clear hK1 K1
      go_simp
      first | (with_reducible refine hK0 _ (wpQuiet_nil ?_)) | (with_reducible refine ⟨_, fun _ _ => rfl, hK0 _ (wpQuiet_nil ?_)⟩) | (rw [if_neg (by intro e; cases e)]; with_reducible refine hK0 _ (wpQuiet_nil ?_))
      clear hK0 K0
      intro w6 H6
      clear HB
      go_wp2_with fail
      go_loopw [10] (fun i wr => ∃ m : Nat, m ≤ k ∧ i = .int .i64 (m : Nat) ∧ HP w5 s wr) (fun i _ => k - (intOf i).toNat)
      case atStart => exact ⟨0, Nat.zero_le _, rfl, H6⟩
      case round =>
        obtain ⟨m, hm, rfl, HB⟩ := hrel
        clear H6
        by_cases hlm : m < k
        · have hmL : m < L.length := by have := HN.out; omega
          obtain ⟨y, hy⟩ := get_some hmL
          have fy := fit_at fL hy
          have MT := hide (fun W => via (meets_any fx.1 fy.1 x.2 y.2 W) (v' := .bool false) (by rw [show meetsS x.1 x.2 y.1 y.2 = false from MX.out m y hlm hy]))
          have HY := hide (fun W (H : Below w5.heap.size w5 W) => lst_at (LV.out W H) hy)
          have ML : (m : Int) < (n : Int) := by omega
          clear hy hmL
          go_wp2_with fail
          refine wp_region_quiet (C := HP w5 s) (by kernel_rfl) (by kernel_rfl) (HB.step (Below.refl _ _).drew) (wpQuiet_step (fun K0 hK0 => ?_))
          go_simp
          first | (with_reducible refine hK0 _ (wpQuiet_step (fun K1 hK1 => ?_))) | (with_reducible refine ⟨_, fun _ _ => rfl, hK0 _ (wpQuiet_step (fun K1 hK1 => ?_))⟩) | (rw [if_neg (by intro e; cases e)]; with_reducible refine hK0 _ (wpQuiet_step (fun K1 hK1 => ?_)))
          clear hK0 K0
          go_simp
          first | (with_reducible refine hK1 _ (wpQuiet_step (fun K0 hK0 => ?_))) | (with_reducible refine ⟨_, fun _ _ => rfl, hK1 _ (wpQuiet_step (fun K0 hK0 => ?_))⟩) | (rw [if_neg (by intro e; cases e)]; with_reducible refine hK1 _ (wpQuiet_step (fun K0 hK0 => ?_)))
          clear hK1 K1
          go_simp
          first | (with_reducible refine hK0 _ (wpQuiet_step (fun K1 hK1 => ?_))) | (with_reducible refine ⟨_, fun _ _ => rfl, hK0 _ (wpQuiet_step (fun K1 hK1 => ?_))⟩) | (rw [if_neg (by intro e; cases e)]; with_reducible refine hK0 _ (wpQuiet_step (fun K1 hK1 => ?_)))
          clear hK0 K0
          go_simp
          refine ⟨Bv x, fun W hW => ?_, hK1 _ (wpQuiet_step (fun K0 hK0 => ?_))⟩
          · ((obtain ⟨_, _, eb, _, u0, u1, u2⟩ := HX.out W hW.1; cases eb; simp [go_sem, u0, u1, u2]))
          clear hK1 K1
          go_simp
          first | (with_reducible refine hK0 _ (wpQuiet_step (fun K1 hK1 => ?_))) | (with_reducible refine ⟨_, fun _ _ => rfl, hK0 _ (wpQuiet_step (fun K1 hK1 => ?_))⟩) | (rw [if_neg (by intro e; cases e)]; with_reducible refine hK0 _ (wpQuiet_step (fun K1 hK1 => ?_)))
          clear hK0 K0
          go_simp
          first | (with_reducible refine hK1 _ (wpQuiet_step (fun K0 hK0 => ?_))) | (with_reducible refine ⟨_, fun _ _ => rfl, hK1 _ (wpQuiet_step (fun K0 hK0 => ?_))⟩) | (rw [if_neg (by intro e; cases e)]; with_reducible refine hK1 _ (wpQuiet_step (fun K0 hK0 => ?_)))
          clear hK1 K1
          go_simp
          first | (with_reducible refine hK0 _ (wpQuiet_step (fun K1 hK1 => ?_))) | (with_reducible refine ⟨_, fun _ _ => rfl, hK0 _ (wpQuiet_step (fun K1 hK1 => ?_))⟩) | (rw [if_neg (by intro e; cases e)]; with_reducible refine hK0 _ (wpQuiet_step (fun K1 hK1 => ?_)))
          clear hK0 K0
          go_simp
          refine ⟨Bv y, fun W hW => ?_, hK1 _ (wpQuiet_step (fun K0 hK0 => ?_))⟩
          · ((obtain ⟨_, _, eb, _, u0, u1, u2⟩ := HY.out W hW.1; cases eb; simp [go_sem, u0, u1, u2]))
          clear hK1 K1
          go_simp
          refine ⟨.bool false, fun W hW => ?_, hK0 _ (wpQuiet_nil ?_)⟩
          · exact (MT.out W).mono fun e w2 ⟨he, hb⟩ => ⟨he, HP.step hW hb⟩
          clear hK0 K0
          intro w7 H7
          go_wp2
          go_roundw
          case rel => exact ⟨m + 1, hlm, by go_num, H7⟩
          case measure => simp [intOf]; omega
        · obtain rfl : m = k := by omega
          obtain ⟨_, _, eb, _, u0, u1, u2⟩ := HX.out _ HB.1
          cases eb
          go_wp2_with fail
          clear u0 u1 u2
          refine (SX.out _).mono ?_
          rintro e w8 ⟨rfl, hb1⟩
          have H8 := (HB.step hb1).step (below_alloc w8 (.cells #[.int .u64 (hi (firstA x.1 x.2) : Nat), .int .u64 (lo (firstA x.1 x.2) : Nat), .int .u64 (hi (lastA x.1 x.2) : Nat), .int .u64 (lo (lastA x.1 x.2) : Nat)] 63))
          clear HB hb1
          have SU := hide (fun W => sub_any (a := lastA x.1 x.2) (b := firstA x.1 x.2) (fits_lastA fx.1 x.2) (fits_firstA fx.1 x.2) W)
          rw [LX.out] at SU
          go_wp2_with fail
          refine (SU.out _).mono ?_
          rintro e w9 ⟨rfl, hb2⟩
          have GN : w5.heap.size < w9.heap.size := (H8.step hb2).2.2.2.2.2
          have H9 := (H8.step hb2).step (below_alloc w9 (.cells #[.int .u64 (hi (szB x - 1) : Nat), .int .u64 (lo (szB x - 1) : Nat)] 24))
          have T2 := two_new w9 (szB x - 1) 24
          have G2 := H9.1.size
          clear H8 hb2 SU
          have AD := hide (fun W => add_any (a := szB x - 1) (b := 1) (fits_less x) (by unfold Fits; omega) W)
          rw [one_word, size_of] at AD
          go_wp2_with fail
          generalize w9.alloc (.cells #[.int .u64 (hi (szB x - 1) : Nat), .int .u64 (lo (szB x - 1) : Nat)] 24) = V2 at *
          generalize w9.heap.size = g1 at *
          refine (AD.out _).mono ?_
          rintro e wa ⟨rfl, hb3⟩
          have Ha := H9.step hb3
          have T3 := T2.step hb3
          clear H9 T2 hb3 AD
          obtain ⟨t0, t1, t2, t3, t4⟩ := two_all T3
          go_upto_region 18 with fail
          clear t0 t1 t2 t3 t4
          have TS := (Ha.2.set (p := ⟨g1, 0, none⟩) (by simp; omega) (.int .u64 (hi (szB x % 340282366920938463463374607431768211456) : Nat))).set (p := ⟨g1, 1, none⟩) (by simp; omega) (.int .u64 (lo (szB x % 340282366920938463463374607431768211456) : Nat))
          have TN := T3.put (szB x % 340282366920938463463374607431768211456)
          have BX := (Ha.1.setCell (p := ⟨g1, 0, none⟩) (Nat.le_of_lt GN) (.int .u64 (hi (szB x % 340282366920938463463374607431768211456) : Nat))).setCell (p := ⟨g1, 1, none⟩) (Nat.le_of_lt GN) (.int .u64 (lo (szB x % 340282366920938463463374607431768211456) : Nat))
          generalize (wa.setCell ⟨g1, 0, none⟩ (.int .u64 (hi (szB x % 340282366920938463463374607431768211456) : Nat))).setCell ⟨g1, 1, none⟩ (.int .u64 (lo (szB x % 340282366920938463463374607431768211456) : Nat)) = Vx at *
          clear Ha T3 GN G2
          have Hx : HP w5 s Vx := ⟨BX, TS⟩
          obtain ⟨t0, t1, t2, t3, t4⟩ := two_all TS
          obtain ⟨n0, n1, n2, n3, n4⟩ := two_all TN
          have AE := hide (fun W => add_any (a := s) (b := szB x % 340282366920938463463374607431768211456) fs (fits_mod _) W)
          rw [SN.out] at AE
          go_wp2_with fail
          clear t0 t1 t2 t3 t4 n0 n1 n2 n3 n4 TS TN BX
          refine (AE.out _).mono ?_
          rintro e wb ⟨rfl, hbb⟩
          have Hb := Hx.step hbb
          clear Hx hbb AE
          obtain ⟨t0, t1, t2, t3, t4⟩ := two_all Hb.2
          go_wp2
          go_roundw
          case rel => exact ⟨m + 1, hlt, by go_num, ⟨(Hb.1.setCell (Nat.le_refl _) _).setCell (Nat.le_refl _) _, Hb.2.put _⟩⟩
          case measure => simp [intOf]; omega
    · obtain rfl : k = n := by omega
      have e : L.take k = L := List.take_of_length_le (by have := HN.out; omega)
      rw [e, sL] at HB
      clear e
      obtain ⟨_, ⟨_, ⟨x1, x2, x3⟩, _⟩, _⟩ := KV.out _ HB.1
      have z0 := Nat.lt_of_lt_of_le (KV.out _ HB.1).2.1.1 (Nat.le_refl _)
      go_wp2_with fail
      clear x1 x2 x3 z0
      refine (SPN.out _).mono ?_
      rintro e w8 ⟨rfl, hb1⟩
      have H8 := (HB.step hb1).step (below_alloc w8 (.cells #[.int .u64 (hi (firstA p.1 p.2) : Nat), .int .u64 (lo (firstA p.1 p.2) : Nat), .int .u64 (hi (lastA p.1 p.2) : Nat), .int .u64 (lo (lastA p.1 p.2) : Nat)] 63))
      clear HB hb1
      have SU := hide (fun W => sub_any (a := lastA p.1 p.2) (b := firstA p.1 p.2) (fits_lastA fp.1 p.2) (fits_firstA fp.1 p.2) W)
      rw [LP.out] at SU
      go_wp2_with fail
      refine (SU.out _).mono ?_
      rintro e w9 ⟨rfl, hb2⟩
      have GN : w5.heap.size < w9.heap.size := (H8.step hb2).2.2.2.2.2
      have H9 := (H8.step hb2).step (below_alloc w9 (.cells #[.int .u64 (hi (szB p - 1) : Nat), .int .u64 (lo (szB p - 1) : Nat)] 24))
      have T2 := two_new w9 (szB p - 1) 24
      have G2 := H9.1.size
      clear H8 hb2 SU
      have AD := hide (fun W => add_any (a := szB p - 1) (b := 1) (fits_less p) (by unfold Fits; omega) W)
      rw [one_word, size_of] at AD
      go_wp2_with fail
      generalize w9.alloc (.cells #[.int .u64 (hi (szB p - 1) : Nat), .int .u64 (lo (szB p - 1) : Nat)] 24) = V2 at *
      generalize w9.heap.size = g1 at *
      refine (AD.out _).mono ?_
      rintro e wa ⟨rfl, hb3⟩
      have Ha := H9.step hb3
      have T3 := T2.step hb3
      clear H9 T2 hb3 AD
      obtain ⟨t0, t1, t2, t3, t4⟩ := two_all T3
      go_upto_region 22 with fail
      clear t0 t1 t2 t3 t4
      have TS := (Ha.2.set (p := ⟨g1, 0, none⟩) (by simp; omega) (.int .u64 (hi (szB p % 340282366920938463463374607431768211456) : Nat))).set (p := ⟨g1, 1, none⟩) (by simp; omega) (.int .u64 (lo (szB p % 340282366920938463463374607431768211456) : Nat))
      have TN := T3.put (szB p % 340282366920938463463374607431768211456)
      have BX := (Ha.1.setCell (p := ⟨g1, 0, none⟩) (Nat.le_of_lt GN) (.int .u64 (hi (szB p % 340282366920938463463374607431768211456) : Nat))).setCell (p := ⟨g1, 1, none⟩) (Nat.le_of_lt GN) (.int .u64 (lo (szB p % 340282366920938463463374607431768211456) : Nat))
      generalize (wa.setCell ⟨g1, 0, none⟩ (.int .u64 (hi (szB p % 340282366920938463463374607431768211456) : Nat))).setCell ⟨g1, 1, none⟩ (.int .u64 (lo (szB p % 340282366920938463463374607431768211456) : Nat)) = Vx at *
      clear Ha T3 GN G2
      have Hx : HP w5 (szB p % 340282366920938463463374607431768211456) Vx := ⟨BX, TS⟩
      obtain ⟨t0, t1, t2, t3, t4⟩ := two_all TS
      obtain ⟨n0, n1, n2, n3, n4⟩ := two_all TN
      have EA := fun W => eqA_same (szB p % 340282366920938463463374607431768211456) W
      have KX := KV.out _ BX
      obtain ⟨_, ⟨z, ⟨x1, x2, x3⟩, _⟩, _⟩ := id KX
      have MF := KX.2.2
      have BB := chain BW5 BX
      clear KX
      go_wp2_with fail
      clear z x1 x2 x3 t0 t1 t2 t3 t4 n0 n1 n2 n3 n4 TS TN Hx EA
      refine (GD.out _ _ MF).mono ?_
      rintro e wb ⟨rfl, hbb⟩
      have HBB := chain BB hbb
      clear hbb MF BB BX
      go_wp2
      go_ret
      exact ⟨rfl, HBB⟩
end Go.Proofs.Ytpieddddckbfdaa
