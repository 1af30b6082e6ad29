/-
  WalCrash's walk. Condition: a string has at most 2^47 bytes, an int is one of 64 bits.
-/
import Derived.Test.YtnaedngbcndakaaWalCm
import Derived.Test.YtnaedngbcndakaaWalRa
import Derived.Test.YtnaedngbcndakaaRdV
namespace Go.Proofs.Ytnaedngbcndakaa
open Go.RowKit Go.Maps

variable {w0 w w' : World} {d g : Nat} {s : Dk} {x : Nm} {n : Nat} {b : Bool} {K : Nat → Prop}
theorem rest_60 (a : Int) : ∃ k : Nat, wrap64 ((IntKind.u64.wrap a).tmod 60) = (k : Int) ∧ k < 60 := by
  have hx : 0 ≤ IntKind.u64.wrap a := by rw [IntKind.wrap_u64]; omega
  have h1 := Int.tmod_nonneg 60 hx
  have h2 := Int.tmod_lt_of_pos (IntKind.u64.wrap a) (show (0 : Int) < 60 by omega)
  refine ⟨((IntKind.u64.wrap a).tmod 60).toNat, ?_, by omega⟩
  unfold wrap64
  omega
theorem sd_down (h : SesK K w0 w d g x n b s) {c : Bool} (hr : s.down = c) : Calls Try.prog 33 #[Pt d] w (Same (.bool c) w) := by
  subst hr
  obtain ⟨O, h1, _⟩ := h.acts
  exact down_any h1
/-- the law's own row has grown by a record -/
theorem sent_turn {v : Value} {m : Nat} {xs : List Value} {o : Obj} {w4 : World} {g2 : Nat} (h : SesK K w0 w d g x n b s) (hr : w.ownsRow w0.heap.size 9 1 v m xs) (hK : ∀ i, v.ownBlock = some i → K i) (hg : (w.alloc o).grownBy w4 v.ownBlock) (hl : v.ownBlock = some g2 ∨ g2 = (w.alloc o).heap.size) (hlt : g2 < w4.heap.size) :
    SesK (fun i => K i ∨ i = g2) w0 w4 d g x n b s := by
  have F : Fr (fun k => some k = v.ownBlock) w w4 := (Fr.alloc w o).no.trans (Fr.grown hg) (fun i _ e => e)
  refine h.turn F (fun i e => ⟨hK i e.symm, ?_⟩) (fun i e => ?_)
  · rcases hr.2 with ⟨rfl, _⟩ | ⟨g', cap, cur, rfl, hb, _⟩
    · simp [Value.ownBlock] at e
    · obtain rfl : i = g' := by simpa [Value.ownBlock] using e
      exact hb
  · rcases e with e | rfl
    · exact Or.inl e
    · rcases hl with hl | hl
      · exact Or.inl (hK _ hl)
      · refine Or.inr ⟨?_, hlt⟩
        rw [hl]
        simp
/-- what is known of the law's own count of the records -/
def Cnt (sl all safe k : Nat) (sent : List Nm) (s : Dk) : Prop := sl = sent.length ∧ sizeL sent ≤ all ∧ safe ≤ sent.length ∧ sent.length ≤ k ∧ s.steps ≤ 2 * k ∧ ∀ p ∈ sent, recOk p
/-- what is known of the disk and the log -/
def Sta (keep : Int) (sent : List Nm) (safe n : Nat) (b : Bool) (s : Dk) : Prop := n ≤ 1048576 ∧ ((b = false ∧ n = sizeL sent ∧ UpS keep sent safe s) ∨ DnS sent safe s)
/-- the law's own row, its disk and its log -/
def Row (w2 wr : World) (d g n : Nat) (b : Bool) (s : Dk) (v : Value) (sl : Nat) (sent : List Nm) : Prop := ∃ K : Nat → Prop, SesK K w2 wr d g nLog n b s ∧ (∀ i, v.ownBlock = some i → K i) ∧ wr.ownsRow w2.heap.size 9 1 v sl (sent.map St)
theorem cnt_snoc {sl all safe k : Nat} {sent : List Nm} {s s' : Dk} {p : Nm} (h : Cnt sl all safe k sent s) (hp : recOk p) {j : Nat} (hj : s'.steps ≤ s.steps + j) (h2 : j ≤ 2) : Cnt (sl + 1) (all + (p.length + 8)) safe (k + 1) (sent ++ [p]) s' := by
  obtain ⟨h1, h3, h4, h5, h6, h7⟩ := h
  refine ⟨by rw [List.length_append, h1]; rfl, by rw [size_snoc]; omega, by rw [List.length_append]; omega, by rw [List.length_append]; show sent.length + 1 ≤ _; omega, by omega, fun q hq => ?_⟩
  rcases List.mem_append.1 hq with h | h
  · exact h7 q h
  · rw [List.mem_singleton.1 h]; exact hp
theorem cnt_pass {sl all safe k a : Nat} {sent : List Nm} {s : Dk} (h : Cnt sl all safe k sent s) : Cnt sl (all + a) safe (k + 1) sent s := by
  obtain ⟨h1, h3, h4, h5, h6, h7⟩ := h
  exact ⟨h1, by omega, h4, by omega, by omega, h7⟩
theorem cnt_all {sl all safe k : Nat} {sent : List Nm} {s : Dk} (h : Cnt sl all safe k sent s) : Cnt sl all sl k sent s := by
  obtain ⟨h1, h3, h4, h5, h6, h7⟩ := h
  exact ⟨h1, h3, Nat.le_of_eq h1, h5, h6, h7⟩
theorem own_keep {v : Value} {m : Nat} {xs : List Value} {w4 w5 : World} {base : Nat} (h : w4.ownsRow base 9 1 v m xs) (F : Fr (fun i => ¬ K i) w4 w5) (hK : ∀ i, v.ownBlock = some i → K i) : w5.ownsRow base 9 1 v m xs :=
  own_fr h F (fun i hi hn => hn (hK i hi))
theorem offC_steps (s : Dk) (keep : Int) : (offC s keep).steps = s.steps := by
  unfold offC
  split <;> rfl
theorem sta_off {keep : Int} {sent : List Nm} {safe n : Nat} {b : Bool} {s : Dk} (h : Sta keep sent safe n b s) : DnS sent safe (offC s keep) := by
  rcases h.2 with ⟨_, _, h⟩ | h
  · rw [offC_up h.1]; exact dn_off h
  · rw [offC_down h.1]; exact h
theorem lapp_down {x p : Nm} {n : Nat} {b : Bool} {s : Dk} (h : s.down = true) : lappD x p n b s = (60, (n, true), s) := by
  unfold lappD
  rw [if_pos (by rw [h]; simp)]
theorem lsync_ended {x : Nm} {n : Nat} {s : Dk} : lsyncD x n true s = (60, (n, true), s) := by
  unfold lsyncD
  rw [if_pos (by simp)]
set_option maxRecDepth 100000 in
set_option maxHeartbeats 4000000 in
theorem crash_any {p : Option Go.Addr} {c : Nat} {l : List Pc} {keep : Int} (cut : Int) (hkp : I64 keep) (hdl : ∀ x ∈ l, x.data.length ≤ 140737488351232) (w : World)
    (HC : Hid (∀ W, Fr No w W → ∀ k (hk : k < l.length), ∃ b o, p = some ⟨b, o, none⟩ ∧ W.cell? ⟨b, o + k * 2, none⟩ = some (St l[k].data) ∧ W.cell? ⟨b, o + k * 2 + 1, none⟩ = some (.bool l[k].sync))) :
    Calls Try.prog 5 #[.slice p l.length c, .int .i64 cut, .int .i64 keep] w (Tells w (.bool true)) := by
  obtain ⟨i0, hi, hz0, hz1, hz2⟩ := info_parts infoSt
  have HDL := hide hdl
  obtain ⟨ct, CT, hct⟩ := rest_60 cut
  have hci : I64 (ct : Int) := ⟨by omega, by omega⟩
  have HKP := hide hkp
  have HCI := hide hci
  clear hdl hkp hci
  go_enter Try.func5, Try.ntmps5
  go_wp2_with fail
  refine (awake_any w).mono ?_
  rintro e w1 ⟨rfl, F1⟩
  go_wp2_with fail
  refine (sd_new (Fr.refl _ w1)).mono ?_
  rintro e w3 ⟨d, rfl, H3⟩
  go_wp2_with fail
  refine (sd_open H3 (by decide) len3 kE4).mono ?_
  rintro e w4 ⟨g, v, rfl, H4, _, _⟩
  clear H3
  go_wp2_with fail
  refine (sk_arm H4 HCI.out HKP.out rfl).mono ?_
  rintro e w5 ⟨rfl, H5, _⟩
  have R5 := hide (show Row w1 w5 d g 0 false (armD newD ct keep) (.slice none 0 0) 0 [] from ⟨_, H5, (fun i e => by simp [Value.ownBlock] at e), World.ownsRow_nil _ _ _ _⟩)
  have T5 := hide (show Sta keep [] 0 0 false (armD newD ct keep) from ⟨by omega, Or.inl ⟨rfl, rfl, rfl, rfl, Or.inl ⟨rfl, rfl, rfl⟩⟩⟩)
  have C5 := hide (show Cnt 0 0 0 0 [] (armD newD ct keep) from ⟨rfl, Nat.le_refl _, Nat.le_refl _, Nat.le_refl _, Nat.le_refl _, fun q hq => by simp at hq⟩)
  generalize armD newD ct keep = s5 at *
  clear H4 H5 CT
  go_wp2_with fail
  go_loopw [10, 11, 12, 13, 14] (fun ev se sa al i wr => ∃ (k safe all n sl cs : Nat) (b : Bool) (sent : List Nm) (s : Dk) (ec : Int) (ps : Option Go.Addr), ev = .int .i64 ec ∧ se = .slice ps sl cs ∧ sa = .int .i64 (safe : Int) ∧ al = .int .i64 (all : Int) ∧ i = .int .i64 (k : Int) ∧
      k ≤ l.length ∧ k ≤ 200 ∧ all ≤ 262144 ∧ Hid (Cnt sl all safe k sent s) ∧ Hid (Sta keep sent safe n b s) ∧ Hid (Row w1 wr d g n b s (.slice ps sl cs) sl sent)) (fun _ _ _ _ i _ => l.length - (intOf i).toNat)
  case atStart => exact ⟨0, 0, 0, 0, 0, 0, false, [], s5, 0, none, rfl, rfl, rfl, rfl, rfl, Nat.zero_le _, Nat.zero_le _, Nat.zero_le _, C5, T5, R5⟩
  case round =>
    clear R5 T5 C5
    obtain ⟨k, safe, all, n, sl, cs, b, sent, s, ec, ps, rfl, rfl, rfl, rfl, rfl, hk1, hk2, hal, HC1, HS1, HR1⟩ := hrel
    have hsl : sl ≤ 200 := by obtain ⟨h1, _, _, h4, _⟩ := HC1.out; omega
    have hst : Hid (s.steps < 4611686018427387904) := hide (by obtain ⟨_, _, _, _, h5, _⟩ := HC1.out; omega)
    by_cases hgo : k < l.length ∧ k < 200 ∧ s.down = false
    · obtain ⟨hlt1, hlt2, hdn⟩ := hgo
      have hlt3 : (k : Int) < (l.length : Int) := by omega
      have hlt4 : (k : Int) < 200 := by omega
      have CC := hide (fun W F => HC.out W F k hlt1)
      have HDX := hide (HDL.out _ (List.getElem_mem hlt1))
      generalize l[k] = x at *
      obtain ⟨data, sy⟩ := x
      simp only at CC HDX
      have hdx := HDX.out
      obtain ⟨di, hd⟩ : ∃ di : Int, (data.length : Int) = di := ⟨_, rfl⟩
      have d1 : 0 ≤ di := by omega
      have d2 : di ≤ 140737488351232 := by omega
      clear hdx
      obtain ⟨UPb, UPn, UPs⟩ : b = false ∧ n = sizeL sent ∧ UpS keep sent safe s := by
        rcases HS1.out.2 with h | h
        · exact h
        · have := h.1; rw [hdn] at this; cases this
      subst UPb
      have UPN := hide UPn
      have UPS := hide UPs
      have HDN := hide hdn
      obtain ⟨K, HK, HKv, HOWN⟩ := HR1.out
      have HKh := hide HK
      have HKV := hide HKv
      have HOW := hide HOWN
      obtain ⟨b, o, rfl, c0, c1⟩ := CC.out wr (F1.andNo HK.fr)
      clear UPn UPs hdn HK HKv HOWN HR1 HS1
      by_cases hbig : 262144 < all + (data.length + 8)
      · have hb1 : 262144 < (all : Int) + (di + 8) := by omega
        go_wp2_with fail
        refine (sd_down HKh.out HDN.out).mono ?_
        rintro e wd ⟨rfl, rfl⟩
        go_wp2
        go_ret
        exact ⟨rfl, F1.andNo HKh.out.fr⟩
      · have hb1 : ¬ 262144 < (all : Int) + (di + 8) := by omega
        by_cases hrec : recOk data
        · have r1 : ¬ di < 1 := by have := hrec.1; omega
          have r2 : ¬ 65536 < di := by have := hrec.2; omega
          have HREC := hide hrec
          have hA := HOW.out.alloc (.cells #[St data] 9)
          have hbs : w1.heap.size ≤ (wr.alloc (.cells #[St data] 9)).heap.size := by
            have := HKh.out.fr.size
            simp; omega
          have hmp : sent.map St ++ [St data] = (sent ++ [data]).map St := by simp
          have ha2 : all + (data.length + 8) ≤ 262144 := by omega
          clear hbig hrec
          go_wp2_with fail
          refine (sd_down HKh.out HDN.out).mono ?_
          rintro e wd ⟨rfl, rfl⟩
          go_wp2_with (at_builtin; refine wpList_append_lies _ rfl (.tmp 79) (.tmp 85) 26 rfl w1.heap.size 9 i0 (.string ⟨#[]⟩) 1 16 Try.underlying26 hi hz0 hz1 hz2 rfl (by decide) _ _ _ rfl hA ⟨wr.heap.size, 0, none⟩ 1 1 [St data] rfl rfl (string_at wr data 9) (string_cell data) (by omega) (by unfold maxLen; omega) (by omega) hbs _ rfl ?_; intro g2 cap2 w6 hown2 hgrow2 hlies hlt; have HK6 := hide (sent_turn HKh.out HOW.out HKV.out hgrow2 hlies hlt); obtain ⟨b', o', e', d0, d1⟩ := CC.out w6 (F1.andNo HK6.out.fr); cases e')
          have HKV6 : Hid (∀ i, (Value.slice (some ⟨g2, 0, none⟩) (sl + 1) cap2).ownBlock = some i → K i ∨ i = g2) := hide (fun i hi => by
            have : g2 = i := by simpa [Value.ownBlock] using hi
            exact Or.inr this.symm)
          rw [hmp] at hown2
          have HOW6 := hide hown2
          clear hA hown2 hgrow2 hlies hlt hmp HKh HKV HOW hbs
          obtain ⟨s6, AP⟩ := app_up UPS.out (by obtain ⟨_, _, h3, _⟩ := HC1.out; exact h3) HREC.out (by obtain ⟨_, h2, _⟩ := HC1.out; omega)
          rw [← UPN.out] at AP
          rcases AP with ⟨_, a1, a2, a3⟩ | ⟨a1, a2, a3, _⟩
          · -- the power goes at the Append
            have HA1 := hide a1
            have HA2 := hide a2
            have HA3 := hide a3
            clear a1 a2 a3
            go_wp2_with fail
            refine (sk_lappend HK6.out hst.out len3 (by obtain ⟨_, h2, _⟩ := HC1.out; have := UPN.out; omega) HA1.out).mono ?_
            rintro e w7 ⟨rfl, H7, G7⟩
            have HOW7 := hide (own_keep HOW6.out G7 HKV6.out)
            have H7' := hide H7
            clear H7 G7
            go_wp2_with fail
            refine (sd_down H7'.out HA2.out.1).mono ?_
            rintro e wd ⟨rfl, rfl⟩
            go_wp2
            go_roundw
            case rel => exact ⟨k + 1, safe, all + (data.length + 8), n, sl + 1, cap2, true, sent ++ [data], s6, 60, some ⟨g2, 0, none⟩, rfl, rfl, rfl, by go_num, by go_num, by omega, by omega, ha2, hide (cnt_snoc HC1.out HREC.out (j := 0) (by have := HA3.out; omega) (by omega)), hide ⟨(by obtain ⟨_, h2, _⟩ := HC1.out; have := UPN.out; omega), Or.inr HA2.out⟩, hide ⟨_, H7'.out, HKV6.out, HOW7.out⟩⟩
            case measure => simp [intOf]; omega
          · have HA1 := hide a1
            have HA2 := hide a2
            have HA3 := hide a3
            clear a1 a2 a3
            cases sy with
            | false =>
              go_wp2_with fail
              refine (sk_lappend HK6.out hst.out len3 (by obtain ⟨_, h2, _⟩ := HC1.out; have := UPN.out; omega) HA1.out).mono ?_
              rintro e w7 ⟨rfl, H7, G7⟩
              have HOW7 := hide (own_keep HOW6.out G7 HKV6.out)
              have H7' := hide H7
              obtain ⟨b', o', e', f0, f1⟩ := CC.out w7 (F1.andNo H7.fr)
              cases e'
              clear H7 G7 d0 d1
              go_wp2_with fail
              refine (sd_down H7'.out HA2.out.1).mono ?_
              rintro e wd ⟨rfl, rfl⟩
              go_wp2
              go_roundw
              case rel => exact ⟨k + 1, safe, all + (data.length + 8), sizeL (sent ++ [data]), sl + 1, cap2, false, sent ++ [data], s6, 0, some ⟨g2, 0, none⟩, rfl, rfl, rfl, by go_num, by go_num, by omega, by omega, ha2, hide (cnt_snoc HC1.out HREC.out (j := 1) (by have := HA3.out; omega) (by omega)), hide ⟨(by obtain ⟨_, h2, _⟩ := HC1.out; rw [size_snoc]; omega), Or.inl ⟨rfl, rfl, HA2.out⟩⟩, hide ⟨_, H7'.out, HKV6.out, HOW7.out⟩⟩
              case measure => simp [intOf]; omega
            | true =>
              obtain ⟨s8, SY⟩ := syn_up (n := sizeL (sent ++ [data])) HA2.out (by simp)
              have hst6 : Hid (s6.steps < 4611686018427387904) := hide (by have := HA3.out; have := hst.out; obtain ⟨_, _, _, _, h5, _⟩ := HC1.out; omega)
              rcases SY with ⟨_, b1, b2, b3⟩ | ⟨b1, b2, b3, _⟩
              · have HB1 := hide b1
                have HB2 := hide b2
                have HB3 := hide b3
                clear b1 b2 b3
                go_wp2_with fail
                refine (sk_lappend HK6.out hst.out len3 (by obtain ⟨_, h2, _⟩ := HC1.out; have := UPN.out; omega) HA1.out).mono ?_
                rintro e w7 ⟨rfl, H7, G7⟩
                have HOW7 := hide (own_keep HOW6.out G7 HKV6.out)
                have H7' := hide H7
                obtain ⟨b', o', e', f0, f1⟩ := CC.out w7 (F1.andNo H7.fr)
                cases e'
                clear H7 G7 d0 d1
                go_wp2_with fail
                refine (sk_lsync H7'.out hst6.out len3 HB1.out).mono ?_
                rintro e w8 ⟨rfl, H8, G8⟩
                have HOW8 := hide (own_keep HOW7.out G8 HKV6.out)
                have H8' := hide H8
                clear H8 G8 f0 f1 H7' HOW7
                go_wp2_with fail
                refine (sd_down H8'.out HB2.out.1).mono ?_
                rintro e wd ⟨rfl, rfl⟩
                go_wp2
                go_roundw
                case rel => exact ⟨k + 1, safe, all + (data.length + 8), sizeL (sent ++ [data]), sl + 1, cap2, true, sent ++ [data], s8, 60, some ⟨g2, 0, none⟩, rfl, rfl, rfl, by go_num, by go_num, by omega, by omega, ha2, hide (cnt_snoc HC1.out HREC.out (j := 1) (by have := HA3.out; have := HB3.out; omega) (by omega)), hide ⟨(by obtain ⟨_, h2, _⟩ := HC1.out; rw [size_snoc]; omega), Or.inr HB2.out⟩, hide ⟨_, H8'.out, HKV6.out, HOW8.out⟩⟩
                case measure => simp [intOf]; omega
              · have HB1 := hide b1
                have HB2 := hide b2
                have HB3 := hide b3
                clear b1 b2 b3
                go_wp2_with fail
                refine (sk_lappend HK6.out hst.out len3 (by obtain ⟨_, h2, _⟩ := HC1.out; have := UPN.out; omega) HA1.out).mono ?_
                rintro e w7 ⟨rfl, H7, G7⟩
                have HOW7 := hide (own_keep HOW6.out G7 HKV6.out)
                have H7' := hide H7
                obtain ⟨b', o', e', f0, f1⟩ := CC.out w7 (F1.andNo H7.fr)
                cases e'
                clear H7 G7 d0 d1
                go_wp2_with fail
                refine (sk_lsync H7'.out hst6.out len3 HB1.out).mono ?_
                rintro e w8 ⟨rfl, H8, G8⟩
                have HOW8 := hide (own_keep HOW7.out G8 HKV6.out)
                have H8' := hide H8
                clear H8 G8 f0 f1 H7' HOW7
                go_wp2_with fail
                refine (sd_down H8'.out HB2.out.1).mono ?_
                rintro e wd ⟨rfl, rfl⟩
                go_wp2
                go_roundw
                case rel => exact ⟨k + 1, sl + 1, all + (data.length + 8), sizeL (sent ++ [data]), sl + 1, cap2, false, sent ++ [data], s8, 0, some ⟨g2, 0, none⟩, rfl, rfl, by go_num, by go_num, by go_num, by omega, by omega, ha2, hide (cnt_all (cnt_snoc HC1.out HREC.out (j := 2) (by have := HA3.out; have := HB3.out; omega) (by omega))), hide ⟨(by obtain ⟨_, h2, _⟩ := HC1.out; rw [size_snoc]; omega), Or.inl ⟨rfl, rfl, by
                  have h1 : sl + 1 = (sent ++ [data]).length := by obtain ⟨h1, _⟩ := HC1.out; rw [h1, List.length_append]; rfl
                  rw [h1]; exact HB2.out⟩⟩, hide ⟨_, H8'.out, HKV6.out, HOW8.out⟩⟩
                case measure => simp [intOf]; omega
        · have ha2 : all + (data.length + 8) ≤ 262144 := by omega
          by_cases hs1 : data.length < 1
          · have r1 : di < 1 := by omega
            clear hbig hrec
            go_wp2_with fail
            refine (sd_down HKh.out HDN.out).mono ?_
            rintro e wd ⟨rfl, rfl⟩
            go_wp2
            go_roundw
            case rel => exact ⟨k + 1, safe, all + (data.length + 8), n, sl, cs, false, sent, s, ec, ps, rfl, rfl, rfl, by go_num, by go_num, by omega, by omega, ha2, hide (cnt_pass HC1.out), hide ⟨(by obtain ⟨_, h2, _⟩ := HC1.out; have := UPN.out; omega), Or.inl ⟨rfl, UPN.out, UPS.out⟩⟩, hide ⟨_, HKh.out, HKV.out, HOW.out⟩⟩
            case measure => simp [intOf]; omega
          · have r1 : ¬ di < 1 := by omega
            have r2 : 65536 < di := by
              have : ¬ data.length ≤ 65536 := fun e => hrec ⟨by omega, e⟩
              omega
            clear hbig hrec
            go_wp2_with fail
            refine (sd_down HKh.out HDN.out).mono ?_
            rintro e wd ⟨rfl, rfl⟩
            go_wp2
            go_roundw
            case rel => exact ⟨k + 1, safe, all + (data.length + 8), n, sl, cs, false, sent, s, ec, ps, rfl, rfl, rfl, by go_num, by go_num, by omega, by omega, ha2, hide (cnt_pass HC1.out), hide ⟨(by obtain ⟨_, h2, _⟩ := HC1.out; have := UPN.out; omega), Or.inl ⟨rfl, UPN.out, UPS.out⟩⟩, hide ⟨_, HKh.out, HKV.out, HOW.out⟩⟩
            case measure => simp [intOf]; omega
    · obtain ⟨K, HK, HKv, HOWN⟩ := HR1.out
      obtain ⟨n1, n2, n3, n4, n5, n6⟩ := HC1.out
      have DN0 := sta_off HS1.out
      have DS := offC_steps s keep
      have NN := HS1.out.1
      obtain ⟨m, s4, m1, m2, m3, m4, m5⟩ := open_dn DN0 n6 n3
      obtain ⟨s2, hs2⟩ : ∃ s2, offC s keep = s2 := ⟨_, rfl⟩
      rw [hs2] at DN0 DS m3 m5
      obtain ⟨got, hgot⟩ : ∃ got, got = sent.take m := ⟨_, rfl⟩
      have hgl : got.length = m := by rw [hgot, List.length_take]; omega
      have hgok : ∀ p ∈ got, recOk p := fun p hp => n6 p (List.take_subset m sent (by rw [← hgot]; exact hp))
      have hgs : sizeL got ≤ 262144 := by
        have e := size_append (sent.take m) (sent.drop m)
        rw [List.take_append_drop, ← hgot] at e
        omega
      rw [← hgot] at m3 m4
      obtain ⟨s7, s8, s9, x1, x2, x3, x4, x5⟩ := goes_on m4 hgok (by omega)
      have OFS := offC_steps s8 0
      have HKh := hide HK
      have HKV := hide HKv
      have HOW := hide HOWN
      have HSOFF := hide hs2
      have HDN0 := hide DN0
      have X1 := hide x1
      have X2 := hide x2
      have X3 := hide x3
      have M3 := hide m3
      have HGOT := hide hgot
      have ST2 : Hid (s2.steps < 4611686018427387904) := hide (by omega)
      have ST4 : Hid (s4.steps < 4611686018427387904) := hide (by omega)
      have ST7 : Hid (s7.steps < 4611686018427387904) := hide (by omega)
      have ST9 : Hid ((onD (offC s8 0)).steps < 4611686018427387904) := hide (by show (offC s8 0).steps < _; omega)
      have HNN : Hid (n ≤ 4611686018427387904) := hide (by omega)
      have HNG : Hid (sizeL got ≤ 4611686018427387904) := hide (by omega)
      have q1 : ¬ (m : Int) < (safe : Int) := by omega
      have q2 : ¬ (sl : Int) < (m : Int) := by omega
      obtain ⟨ps', cs', hcv, hcc, hcm⟩ := (RowC.own (l := sent) HOWN).2
      obtain ⟨rfl, hcl, rfl⟩ : ps = ps' ∧ sl = sent.length ∧ cs = cs' := by simpa using hcv
      have q3 : m ≤ cs := by omega
      have q4 : (m : Int) ≤ (cs : Int) := by omega
      unfold maxLen at hcm
      have HM1 := hide m1
      have hm200 : m ≤ 200 := by omega
      clear HK HKv HOWN HR1 HS1 n1 n2 n3 n4 n5 n6 DN0 DS NN m1 m2 m3 m4 m5 hs2 hgok hgs x1 x2 x3 x4 x5 OFS hcv hcc hcl hgot
      have hexit : ¬ (k : Int) < (l.length : Int) ∨ ((k : Int) < (l.length : Int) ∧ ¬ (k : Int) < 200) ∨ ((k : Int) < (l.length : Int) ∧ (k : Int) < 200 ∧ Hid (s.down = true)) := by
        by_cases a : k < l.length
        · by_cases a2 : k < 200
          · refine Or.inr (Or.inr ⟨by omega, by omega, hide ?_⟩)
            cases hd : s.down
            · exact absurd ⟨a, a2, hd⟩ hgo
            · rfl
          · exact Or.inr (Or.inl ⟨by omega, by omega⟩)
        · exact Or.inl (by omega)
      clear hgo
      rcases hexit with z1 | ⟨z1, z2⟩ | ⟨z1, z2, z3⟩
      · go_wp2_with fail
        refine (sk_off HKh.out HKP.out HSOFF.out).mono ?_
        rintro e t1 ⟨rfl, H1, G1⟩
        go_wp2_with fail
        refine (sk_lappend H1 ST2.out len3 HNN.out (lapp_down HDN0.out.1)).mono ?_
        rintro e t2 ⟨rfl, H2, G2⟩
        go_wp2_with fail
        refine (sk_on H2 rfl).mono ?_
        rintro e t3 ⟨rfl, H3, G3⟩
        go_wp2_with fail
        refine (sk_lsync H3 ST2.out len3 lsync_ended).mono ?_
        rintro e t4 ⟨rfl, H4, G4⟩
        go_wp2_with fail
        refine (sd_open H4.disk ST2.out len3 M3.out).mono ?_
        rintro e t5 ⟨g5, v5, rfl, H5, R5, G5⟩
        have HOW5 := own_keep (own_keep (own_keep (own_keep (own_keep HOW.out G1 HKV.out) G2 HKV.out) G3 HKV.out) G4 HKV.out) G5 HKV.out
        have RT := RowC.own (l := sent) HOW5
        obtain ⟨pg, cg, hv5, hcg1, hcg2⟩ := R5.2
        rw [hgl] at hv5 hcg1
        subst hv5
        have HR5 := hide R5
        have SM := hide (same_rows R5.1 (RT.take HM1.out) (by omega) H5 (q := true) (by rw [← HGOT.out]; exact decide_eq_true rfl))
        clear H1 H2 H3 H4 H5 G1 G2 G3 G4 G5 R5 HOW5 RT
        go_wp2_with fail
        refine SM.out.mono ?_
        rintro e t6 ⟨rfl, H6, G6⟩
        have R6 := HR5.out.fr G6 (fun i hi hn => hn (Or.inr hi))
        clear HR5 SM
        go_wp2_with fail
        refine (sk_lappend H6 ST4.out len3 HNG.out X1.out).mono ?_
        rintro e t7 ⟨rfl, H7, G7⟩
        have R7 := R6.fr G7 (fun i hi hn => hn (Or.inr hi))
        clear H6 G6 R6
        go_wp2_with fail
        refine (sk_lsync H7 ST7.out len3 X2.out).mono ?_
        rintro e t8 ⟨rfl, H8, G8⟩
        have R8 := R7.fr G8 (fun i hi hn => hn (Or.inr hi))
        clear H7 G7 R7
        go_wp2_with fail
        refine (sk_off H8 (keep := 0) (by decide) rfl).mono ?_
        rintro e t9 ⟨rfl, H9, G9⟩
        have R9 := R8.fr G9 (fun i hi hn => hn (Or.inr hi))
        clear H8 G8 R8
        go_wp2_with fail
        refine (sk_on H9 rfl).mono ?_
        rintro e t10 ⟨rfl, H10, G10⟩
        have R10 := R9.fr G10 (fun i hi hn => hn (Or.inr hi))
        clear H9 G9 R9
        go_wp2_with fail
        refine (sd_open H10.disk ST9.out len3 X3.out).mono ?_
        rintro e t11 ⟨g11, v11, rfl, H11, R11, G11⟩
        have RG := R10.fr G11 (fun i hi hn => hn (Or.inr hi))
        obtain ⟨pa, ca, hva, hca1, hca2⟩ := R11.2
        have hal2 : (got ++ [nMore]).length = m + 1 := by rw [List.length_append, hgl]; rfl
        rw [hal2] at hva hca1
        subst hva
        have RA := R11.take (m := m) (by omega)
        rw [List.take_left' hgl] at RA
        have SM2 := hide (same_rows RA RG.1 (by omega) H11 (q := true) (decide_eq_true rfl))
        obtain ⟨ba, e2⟩ : ∃ ba, pa = some ⟨ba, 0, none⟩ := by
          obtain ⟨b1, c1, e2, _⟩ := R11.1.at (k := m) (by omega)
          injection e2 with i1 i2 i3
          exact ⟨b1, i1⟩
        subst e2
        have AT := hide (show ∀ W : World, RowS W (.slice (some ⟨ba, 0, none⟩) (m + 1) ca) (got ++ [nMore]) → W.cell? ⟨ba, m, none⟩ = some (St nMore) from fun W R => by
          obtain ⟨b1, c1, e2, h4⟩ := R.at (k := m) (by omega)
          injection e2 with i1 i2 i3
          injection i1 with i1
          injection i1 with i1
          rw [← i1, List.getElem_append_right (by omega)] at h4
          simpa [hgl] using h4)
        have HR11 := hide R11.1
        have q5 : m ≤ ca := by omega
        have q6 : (m : Int) ≤ (ca : Int) := by omega
        have q7 : (m : Int) < (m : Int) + 1 := by omega
        unfold maxLen at hca2
        clear H10 G10 R10 R11 RG RA H11 G11
        go_wp2_with fail
        refine SM2.out.mono ?_
        rintro e t12 ⟨rfl, H12, G12⟩
        have kk := AT.out t12 (HR11.out.fr G12 (fun i hi hn => hn (Or.inr hi)))
        go_wp2
        go_ret
        exact ⟨rfl, F1.andNo H12.fr⟩
      · go_wp2_with fail
        refine (sk_off HKh.out HKP.out HSOFF.out).mono ?_
        rintro e t1 ⟨rfl, H1, G1⟩
        go_wp2_with fail
        refine (sk_lappend H1 ST2.out len3 HNN.out (lapp_down HDN0.out.1)).mono ?_
        rintro e t2 ⟨rfl, H2, G2⟩
        go_wp2_with fail
        refine (sk_on H2 rfl).mono ?_
        rintro e t3 ⟨rfl, H3, G3⟩
        go_wp2_with fail
        refine (sk_lsync H3 ST2.out len3 lsync_ended).mono ?_
        rintro e t4 ⟨rfl, H4, G4⟩
        go_wp2_with fail
        refine (sd_open H4.disk ST2.out len3 M3.out).mono ?_
        rintro e t5 ⟨g5, v5, rfl, H5, R5, G5⟩
        have HOW5 := own_keep (own_keep (own_keep (own_keep (own_keep HOW.out G1 HKV.out) G2 HKV.out) G3 HKV.out) G4 HKV.out) G5 HKV.out
        have RT := RowC.own (l := sent) HOW5
        obtain ⟨pg, cg, hv5, hcg1, hcg2⟩ := R5.2
        rw [hgl] at hv5 hcg1
        subst hv5
        have HR5 := hide R5
        have SM := hide (same_rows R5.1 (RT.take HM1.out) (by omega) H5 (q := true) (by rw [← HGOT.out]; exact decide_eq_true rfl))
        clear H1 H2 H3 H4 H5 G1 G2 G3 G4 G5 R5 HOW5 RT
        go_wp2_with fail
        refine SM.out.mono ?_
        rintro e t6 ⟨rfl, H6, G6⟩
        have R6 := HR5.out.fr G6 (fun i hi hn => hn (Or.inr hi))
        clear HR5 SM
        go_wp2_with fail
        refine (sk_lappend H6 ST4.out len3 HNG.out X1.out).mono ?_
        rintro e t7 ⟨rfl, H7, G7⟩
        have R7 := R6.fr G7 (fun i hi hn => hn (Or.inr hi))
        clear H6 G6 R6
        go_wp2_with fail
        refine (sk_lsync H7 ST7.out len3 X2.out).mono ?_
        rintro e t8 ⟨rfl, H8, G8⟩
        have R8 := R7.fr G8 (fun i hi hn => hn (Or.inr hi))
        clear H7 G7 R7
        go_wp2_with fail
        refine (sk_off H8 (keep := 0) (by decide) rfl).mono ?_
        rintro e t9 ⟨rfl, H9, G9⟩
        have R9 := R8.fr G9 (fun i hi hn => hn (Or.inr hi))
        clear H8 G8 R8
        go_wp2_with fail
        refine (sk_on H9 rfl).mono ?_
        rintro e t10 ⟨rfl, H10, G10⟩
        have R10 := R9.fr G10 (fun i hi hn => hn (Or.inr hi))
        clear H9 G9 R9
        go_wp2_with fail
        refine (sd_open H10.disk ST9.out len3 X3.out).mono ?_
        rintro e t11 ⟨g11, v11, rfl, H11, R11, G11⟩
        have RG := R10.fr G11 (fun i hi hn => hn (Or.inr hi))
        obtain ⟨pa, ca, hva, hca1, hca2⟩ := R11.2
        have hal2 : (got ++ [nMore]).length = m + 1 := by rw [List.length_append, hgl]; rfl
        rw [hal2] at hva hca1
        subst hva
        have RA := R11.take (m := m) (by omega)
        rw [List.take_left' hgl] at RA
        have SM2 := hide (same_rows RA RG.1 (by omega) H11 (q := true) (decide_eq_true rfl))
        obtain ⟨ba, e2⟩ : ∃ ba, pa = some ⟨ba, 0, none⟩ := by
          obtain ⟨b1, c1, e2, _⟩ := R11.1.at (k := m) (by omega)
          injection e2 with i1 i2 i3
          exact ⟨b1, i1⟩
        subst e2
        have AT := hide (show ∀ W : World, RowS W (.slice (some ⟨ba, 0, none⟩) (m + 1) ca) (got ++ [nMore]) → W.cell? ⟨ba, m, none⟩ = some (St nMore) from fun W R => by
          obtain ⟨b1, c1, e2, h4⟩ := R.at (k := m) (by omega)
          injection e2 with i1 i2 i3
          injection i1 with i1
          injection i1 with i1
          rw [← i1, List.getElem_append_right (by omega)] at h4
          simpa [hgl] using h4)
        have HR11 := hide R11.1
        have q5 : m ≤ ca := by omega
        have q6 : (m : Int) ≤ (ca : Int) := by omega
        have q7 : (m : Int) < (m : Int) + 1 := by omega
        unfold maxLen at hca2
        clear H10 G10 R10 R11 RG RA H11 G11
        go_wp2_with fail
        refine SM2.out.mono ?_
        rintro e t12 ⟨rfl, H12, G12⟩
        have kk := AT.out t12 (HR11.out.fr G12 (fun i hi hn => hn (Or.inr hi)))
        go_wp2
        go_ret
        exact ⟨rfl, F1.andNo H12.fr⟩
      · go_wp2_with fail
        refine (sd_down HKh.out z3.out).mono ?_
        rintro e wd ⟨rfl, rfl⟩
        go_wp2_with fail
        refine (sk_off HKh.out HKP.out HSOFF.out).mono ?_
        rintro e t1 ⟨rfl, H1, G1⟩
        go_wp2_with fail
        refine (sk_lappend H1 ST2.out len3 HNN.out (lapp_down HDN0.out.1)).mono ?_
        rintro e t2 ⟨rfl, H2, G2⟩
        go_wp2_with fail
        refine (sk_on H2 rfl).mono ?_
        rintro e t3 ⟨rfl, H3, G3⟩
        go_wp2_with fail
        refine (sk_lsync H3 ST2.out len3 lsync_ended).mono ?_
        rintro e t4 ⟨rfl, H4, G4⟩
        go_wp2_with fail
        refine (sd_open H4.disk ST2.out len3 M3.out).mono ?_
        rintro e t5 ⟨g5, v5, rfl, H5, R5, G5⟩
        have HOW5 := own_keep (own_keep (own_keep (own_keep (own_keep HOW.out G1 HKV.out) G2 HKV.out) G3 HKV.out) G4 HKV.out) G5 HKV.out
        have RT := RowC.own (l := sent) HOW5
        obtain ⟨pg, cg, hv5, hcg1, hcg2⟩ := R5.2
        rw [hgl] at hv5 hcg1
        subst hv5
        have HR5 := hide R5
        have SM := hide (same_rows R5.1 (RT.take HM1.out) (by omega) H5 (q := true) (by rw [← HGOT.out]; exact decide_eq_true rfl))
        clear H1 H2 H3 H4 H5 G1 G2 G3 G4 G5 R5 HOW5 RT
        go_wp2_with fail
        refine SM.out.mono ?_
        rintro e t6 ⟨rfl, H6, G6⟩
        have R6 := HR5.out.fr G6 (fun i hi hn => hn (Or.inr hi))
        clear HR5 SM
        go_wp2_with fail
        refine (sk_lappend H6 ST4.out len3 HNG.out X1.out).mono ?_
        rintro e t7 ⟨rfl, H7, G7⟩
        have R7 := R6.fr G7 (fun i hi hn => hn (Or.inr hi))
        clear H6 G6 R6
        go_wp2_with fail
        refine (sk_lsync H7 ST7.out len3 X2.out).mono ?_
        rintro e t8 ⟨rfl, H8, G8⟩
        have R8 := R7.fr G8 (fun i hi hn => hn (Or.inr hi))
        clear H7 G7 R7
        go_wp2_with fail
        refine (sk_off H8 (keep := 0) (by decide) rfl).mono ?_
        rintro e t9 ⟨rfl, H9, G9⟩
        have R9 := R8.fr G9 (fun i hi hn => hn (Or.inr hi))
        clear H8 G8 R8
        go_wp2_with fail
        refine (sk_on H9 rfl).mono ?_
        rintro e t10 ⟨rfl, H10, G10⟩
        have R10 := R9.fr G10 (fun i hi hn => hn (Or.inr hi))
        clear H9 G9 R9
        go_wp2_with fail
        refine (sd_open H10.disk ST9.out len3 X3.out).mono ?_
        rintro e t11 ⟨g11, v11, rfl, H11, R11, G11⟩
        have RG := R10.fr G11 (fun i hi hn => hn (Or.inr hi))
        obtain ⟨pa, ca, hva, hca1, hca2⟩ := R11.2
        have hal2 : (got ++ [nMore]).length = m + 1 := by rw [List.length_append, hgl]; rfl
        rw [hal2] at hva hca1
        subst hva
        have RA := R11.take (m := m) (by omega)
        rw [List.take_left' hgl] at RA
        have SM2 := hide (same_rows RA RG.1 (by omega) H11 (q := true) (decide_eq_true rfl))
        obtain ⟨ba, e2⟩ : ∃ ba, pa = some ⟨ba, 0, none⟩ := by
          obtain ⟨b1, c1, e2, _⟩ := R11.1.at (k := m) (by omega)
          injection e2 with i1 i2 i3
          exact ⟨b1, i1⟩
        subst e2
        have AT := hide (show ∀ W : World, RowS W (.slice (some ⟨ba, 0, none⟩) (m + 1) ca) (got ++ [nMore]) → W.cell? ⟨ba, m, none⟩ = some (St nMore) from fun W R => by
          obtain ⟨b1, c1, e2, h4⟩ := R.at (k := m) (by omega)
          injection e2 with i1 i2 i3
          injection i1 with i1
          injection i1 with i1
          rw [← i1, List.getElem_append_right (by omega)] at h4
          simpa [hgl] using h4)
        have HR11 := hide R11.1
        have q5 : m ≤ ca := by omega
        have q6 : (m : Int) ≤ (ca : Int) := by omega
        have q7 : (m : Int) < (m : Int) + 1 := by omega
        unfold maxLen at hca2
        clear H10 G10 R10 R11 RG RA H11 G11
        go_wp2_with fail
        refine SM2.out.mono ?_
        rintro e t12 ⟨rfl, H12, G12⟩
        have kk := AT.out t12 (HR11.out.fr G12 (fun i hi hn => hn (Or.inr hi)))
        go_wp2
        go_ret
        exact ⟨rfl, F1.andNo H12.fr⟩
end Go.Proofs.Ytnaedngbcndakaa
