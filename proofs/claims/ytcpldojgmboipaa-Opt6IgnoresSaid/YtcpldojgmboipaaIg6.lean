/-
  The law Opt6Ignores: options that nobody minds. Conditions: a row takes at most 2^47 bytes; an address is one of 128 bits; a string is no longer than an int; an int is one of 64 bits.
-/
import Derived.Test.YtcpldojgmboipaaSxD
import Derived.Test.YtcpldojgmboipaaBk6
import Derived.Test.YtcpldojgmboipaaRgU
import Derived.Deep.DeepCutAuto
namespace Go.Proofs.Ytcpldojgmboipaa
open Go.RowKit Go.Joins

def awT : Opt := (13, ⟨#[0, 9, 116, 101, 120, 116]⟩)
/-- the options with one put in at k, and a further status -/
def moreL (a : IA) (o : Opt) (k : Nat) : List Opt := (heldA a).take k ++ (o :: ((heldA a).drop k ++ if 0 ≤ a.code then [awT] else []))
theorem more_ok {a : IA} (h : soundA a = true) {o : Opt} (ho : o.2.size ≤ 1000) (k : Nat) : okO (moreL a o k) ∧ (moreL a o k).length ≤ 11 := by
  have h2 := (soundA_iff.1 h).2.1
  have hl := held_len h2
  have hk := okO_held a
  constructor
  · intro x hx
    unfold moreL at hx
    rcases List.mem_append.1 hx with hx | hx
    · exact hk x (List.mem_of_mem_take hx)
    rcases List.mem_cons.1 hx with rfl | hx
    · omega
    rcases List.mem_append.1 hx with hx | hx
    · exact hk x (List.mem_of_mem_drop hx)
    · split at hx
      · rw [List.mem_singleton] at hx
        subst hx
        decide
      · cases hx
  · unfold moreL
    have e : ((heldA a).take k).length + ((heldA a).drop k).length = (heldA a).length := by rw [← List.length_append, List.take_append_drop]
    rw [List.length_append, List.length_cons, List.length_append]
    split <;> simp only [List.length_cons, List.length_nil] <;> omega
theorem more_read {a : IA} (hf : FitA a) (h : soundA a = true) {o : Opt} (h5 : o.1.toNat ≠ 5) (h26 : o.1.toNat ≠ 26) (h13 : o.1.toNat ≠ 13) (ho : o.2.size ≤ 1000) (k : Nat) : readA (codeK a.kind, bs (headA a ++ emitL (moreL a o k))) = .ok a := by
  obtain ⟨h1, h2⟩ := more_ok h ho k
  rw [readA_list h h1 (by omega) (walk_ignores hf h h5 h26 h13 k awT rfl (by decide)), mkA_put h]
theorem put_parts (a : IA) : (putA a).2.extract (sizeA a.kind) (putA a).2.size = bs (emitL (heldA a)) ∧ (putA a).2.extract 0 (sizeA a.kind) = bs (headA a) ∧ sizeA a.kind ≤ (putA a).2.size := by
  have e : lb (putA a).2 = headA a ++ emitL (heldA a) := lb_bs _
  have hl := headA_len a
  have hz : (putA a).2.size = sizeA a.kind + (emitL (heldA a)).length := by rw [← lb_len, e, List.length_append, hl]
  refine ⟨?_, ?_, by omega⟩
  · rw [drop_str _ (by omega), e, drop_at hl]
  · refine lb_inj ?_
    show ((putA a).2.extract 0 (sizeA a.kind)).data.toList = _
    rw [ByteArray.data_extract, Array.toList_extract, List.extract_eq_take_drop, List.drop_zero, Nat.sub_zero, lb_bs]
    show (lb (putA a).2).take _ = _
    rw [e, take_at hl]
theorem HBw.fr {w : World} {a : IA} {v : Value} {o : Opt} {W W2 : World} {S : Nat → Prop} (h : HBw w a v o W) (hf : Fr S W W2) (hS : ∀ k, S k → w.heap.size + 2 ≤ k) : HBw w a v o W2 :=
  ⟨h.below.trans (hf.below h.below.size (fun k e => by have := hS k e; omega)), h.ia.fr hf (fun e => by have := hS _ e; omega), h.op.fr hf (fun e => by have := hS _ e; omega)⟩
/-- the memory of Opt6Ignores: its two arguments, and what was written -/
def IGw (w : World) (a : IA) (v : Value) (o : Opt) (b : Nat) (z : Opt) (W : World) : Prop := HBw w a v o W ∧ Bx b 40 (cellsZ z) W
theorem IGw.step {w : World} {a : IA} {v : Value} {o : Opt} {b : Nat} {z : Opt} {W W2 : World} (h : IGw w a v o b z W) (hb : Below W.heap.size W W2) : IGw w a v o b z W2 := ⟨h.1.step hb, h.2.step hb⟩
/-- a row beside a box of another type that is written -/
theorem own_beside {W W2 : World} {base g size n : Nat} {e t : TypeId} {v : Value} {xs : List Value} {cs : Array Value} (h : W.ownsRow base e size v n xs) (hb : Bx g t cs W) (ht : e ≠ t) (hf : Fr (fun k => k = g) W W2) : W2.ownsRow base e size v n xs := by
  refine own_fr h hf (fun k hk e2 => ?_)
  subst e2
  rcases h.2 with ⟨rfl, _⟩ | ⟨g2, cap, cur, rfl, _, h3, _⟩
  · cases hk
  · cases hk
    unfold Bx at hb
    rw [show W.heap[(⟨g2, 0, none⟩ : Go.Addr).block]? = W.heap[g2]? from rfl] at hb
    rw [hb] at h3
    cases h3
    exact ht rfl
theorem getIA_own {o : Opt} {a : IA} (h : readA o = .ok a) (hs : o.2.size ≤ maxLen) (w : World) : Calls Try.prog 23 #[OV o] w fun e w' => ∃ v, e = .returned (.tuple #[AV a v, .int .i64 0]) ∧ OwnI w' 0 v a.has ∧ Below w.heap.size w w' := by
  refine (getIA_any o hs w).mono ?_
  rintro e w' ⟨v, rfl, h1, h2⟩
  have e1 : getV6 o = a := by unfold getV6; rw [h]
  have e2 : getE o = 0 := by unfold getE; rw [h]
  rw [e1] at h1 ⊢
  rw [e2]
  exact ⟨v, rfl, ownI_base h1 (Nat.zero_le _), h2⟩
theorem place_nat (n : Int) (m : Nat) (hm : m ≤ 1000) : ∃ K : Nat, K ≤ m ∧ wrap64 ((IntKind.u64.wrap n).tmod ((m : Int) + 1)) = (K : Int) := by
  have h0 : 0 ≤ IntKind.u64.wrap n := by rw [IntKind.wrap_u64]; omega
  have e : (IntKind.u64.wrap n).tmod ((m : Int) + 1) = (IntKind.u64.wrap n) % ((m : Int) + 1) := Int.tmod_eq_emod_of_nonneg h0
  have h1 := Int.emod_nonneg (IntKind.u64.wrap n) (show ((m : Int) + 1) ≠ 0 by omega)
  have h2 := Int.emod_lt_of_pos (IntKind.u64.wrap n) (show 0 < ((m : Int) + 1) by omega)
  refine ⟨((IntKind.u64.wrap n) % ((m : Int) + 1)).toNat, by omega, ?_⟩
  rw [e, IntWalk.wrap64_in _ ⟨by omega, by omega⟩]
  omega
/-- a box of identity associations at or above b is written -/
def Xst (b : Nat) (W W2 : World) : Prop := ∃ g cs, b ≤ g ∧ Bx g 37 cs W ∧ Fr (fun k => k = g) W W2 ∧ ∃ cs2 : Array Value, cs2.size = 6 ∧ Bx g 37 cs2 W2
theorem bx_far {g b : Nat} {t u : TypeId} {cs ds : Array Value} {W : World} (h : Bx g t cs W) (h2 : Bx b u ds W) (ht : t ≠ u) : b ≠ g := by
  intro e
  subst e
  unfold Bx at h h2
  rw [h] at h2
  cases h2
  exact ht rfl
theorem fr_setRow (w : World) (b : Nat) (new : Array Value) : Fr (fun k => k = b) w (w.setRow b new) := by
  have B := below_setRow (Below.refl b w) (Nat.le_refl b) new
  exact ⟨B.os, B.tape, B.output, by simp [World.setRow], fun k _ hk => setRow_other w b k _ hk⟩
/-- a value that is the place of a box of identity associations -/
def BoxA (b : Nat) (x : Value) (W : World) : Prop := ∃ g, x = .pointer (some ⟨g, 0, none⟩) ∧ b ≤ g ∧ ∃ cs : Array Value, cs.size = 6 ∧ Bx g 37 cs W
theorem BoxA.st {b s k : Nat} {x : Value} {W W2 : World} (h : BoxA b x W) (hs : StK s (Xst b) k W W2) : BoxA b x W2 := by
  obtain ⟨g, e, hb, cs, hz, hx⟩ := h
  rcases hs.or with ⟨g2, cs2, _, h2, h3, cs3, h4, h5⟩ | h2
  · by_cases hg : g = g2
    · subst hg
      exact ⟨g, e, hb, cs3, h4, h5⟩
    · exact ⟨g, e, hb, cs, hz, hx.fr h3 hg⟩
  · exact ⟨g, e, hb, cs, hz, hx.step h2⟩
theorem BoxA.st2 {b s k : Nat} {x y : Value} {W W2 : World} (e : y = x) (h : BoxA b x W) (hs : StK s (Xst b) k W W2) : BoxA b y W2 := e ▸ h.st hs
theorem ownI_st {b s k : Nat} {v : Value} {l : List In} {W W2 : World} (h : OwnI W 0 v l) (hs : StK s (Xst b) k W W2) : OwnI W2 0 v l := by
  rcases hs.or with ⟨g2, cs2, _, h2, h3, _⟩ | h2
  · exact own_beside h h2 (by decide) h3
  · exact own_keep h h2
theorem IGw.st {w : World} {a : IA} {v : Value} {o : Opt} {b : Nat} {z : Opt} {W W2 : World} (h : IGw w a v o b z W) {g : Nat} {cs : Array Value} (hg : w.heap.size + 2 ≤ g) (hx : Bx g 37 cs W) (hf : Fr (fun k => k = g) W W2) : IGw w a v o b z W2 :=
  ⟨h.1.fr hf (fun k e => by omega), h.2.fr hf (bx_far hx h.2 (by decide))⟩
set_option maxRecDepth 100000 in
set_option maxHeartbeats 16000000 in
theorem ignores_any (a : IA) (hf : FitA a) {v : Value} (hl : a.has.length * 40 ≤ 140737488355328) (o : Opt) (n : Int) (hn : I64 n) (w : World) (hv : LstI v a.has w) :
    Calls Try.prog 8 #[AV a v, OV o, .int .i64 n] w (Gives (.bool true) w) := by
  have H0 := hide (hb_new w a v o)
  have HV := hide (fun W (H : Below w.heap.size w W) => hv.step H)
  have AW := hide (fun W => awake_any W)
  obtain ⟨pv, cv, rfl⟩ := lstI_len hv
  cases hso : soundA a with
  | false =>
    have PB := hide (fun W hv => putIA_bad a hf hso (v := .slice pv a.has.length cv) hl W hv)
    clear hv hf hn hso
    go_enter Try.func8, Try.ntmps8
    go_wp2_with fail
    refine (AW.out _).mono ?_
    rintro e w1 ⟨rfl, hb1⟩
    have H1 := hide (H0.out.step hb1)
    obtain ⟨x0, x1, x2, x3, x4, x5⟩ := ia_cells H1.out.ia
    clear hb1 H0 AW
    go_wp2_with fail
    refine (PB.out _ (HV.out _ H1.out.below)).mono ?_
    rintro e w2 ⟨rfl, hb2⟩
    have D3 := hide (chain (chain H1.out.below hb2) (below_alloc w2 (.cells #[.int .u16 0, .string ⟨#[]⟩] 40)))
    clear hb2 H1 x0 x1 x2 x3 x4 x5
    go_wp2
    go_ret
    exact ⟨rfl, D3.out⟩
  | true =>
    have PO := hide (fun W hv => putIA_ok a hf hso (v := .slice pv a.has.length cv) W hv)
    obtain ⟨s1, s2, s3, _⟩ := soundA_iff.1 hso
    have PP := hide (put_parts a)
    have HL := held_len s2
    have PA := hide (fun W => parse_yes (s := bs (emitL (heldA a))) (l := heldA a) (by rw [lb_bs]; exact parse_emit0 (okO_held a) (by omega)) (by rw [bs_len]; have := emit_len (okO_held a); unfold maxLen; omega) W)
    have MR := hide (fun h5 h26 h13 ho k => more_read hf hso (o := o) h5 h26 h13 ho k)
    have MO := hide (fun ho k => more_ok hso (o := o) ho k)
    have CK := hide (show (putA a).1 = codeK a.kind from rfl)
    have SZ : sizeA a.kind = if a.kind = 3 then 4 else 12 := rfl
    have hla := headA_len a
    clear hv hf hso
    go_enter Try.func8, Try.ntmps8
    go_wp2_with fail
    refine (AW.out _).mono ?_
    rintro e w1 ⟨rfl, hb1⟩
    have H1 := hide (H0.out.step hb1)
    obtain ⟨x0, x1, x2, x3, x4, x5⟩ := ia_cells H1.out.ia
    clear hb1 H0 AW
    go_wp2_with fail
    refine (PO.out _ (HV.out _ H1.out.below)).mono ?_
    rintro e w2 ⟨rfl, hb2⟩
    have H3 := hide ((H1.out.step hb2).step (below_alloc w2 (.cells (cellsZ (putA a)) 40)))
    have X3 := hide (bx_new w2 40 (cellsZ (putA a)))
    clear hb2 H1 x0 x1 x2 x3 x4 x5 PO
    go_upto_region 4 with fail
    generalize w2.alloc (.cells (cellsZ (putA a)) 40) = w3 at *
    obtain ⟨z, hz⟩ : ∃ z, putA a = z := ⟨_, rfl⟩
    rw [hz] at X3 PP CK ⊢
    have y0 := H3.out.op.cell 0
    have y1 := H3.out.op.cell 1
    simp at y0 y1
    clear hz
    by_cases h5 : o.1.toNat = 5
    · have e5 : ((o.1.toNat : Int) == 5) = true := by simpa using (show (o.1.toNat : Int) = 5 by omega)
      clear h5
      go_wp2
      go_ret
      exact ⟨rfl, H3.out.below⟩
    have e5 : ((o.1.toNat : Int) == 5) = false := by simpa using (show ¬ (o.1.toNat : Int) = 5 by omega)
    by_cases h26 : o.1.toNat = 26
    · have e26 : ((o.1.toNat : Int) == 26) = true := by simpa using (show (o.1.toNat : Int) = 26 by omega)
      clear h5 h26
      go_wp2
      go_ret
      exact ⟨rfl, H3.out.below⟩
    have e26 : ((o.1.toNat : Int) == 26) = false := by simpa using (show ¬ (o.1.toNat : Int) = 26 by omega)
    by_cases h13 : o.1.toNat = 13
    · have e13 : ((o.1.toNat : Int) == 13) = true := by simpa using (show (o.1.toNat : Int) = 13 by omega)
      clear h5 h26 h13
      go_wp2
      go_ret
      exact ⟨rfl, H3.out.below⟩
    have e13 : ((o.1.toNat : Int) == 13) = false := by simpa using (show ¬ (o.1.toNat : Int) = 13 by omega)
    by_cases hlen : 1000 < o.2.size
    · have el : (1000 : Int) < (o.2.size : Int) := by omega
      clear h5 h26 h13 hlen
      go_wp2
      go_ret
      exact ⟨rfl, H3.out.below⟩
    have el : ¬ (1000 : Int) < (o.2.size : Int) := by omega
    have MR2 := hide (fun k => MR.out h5 h26 h13 (by omega) k)
    have MO2 := hide (fun k => MO.out (by omega) k)
    clear h5 h26 h13 hlen MR MO
    have x0 := (ia_cells H3.out.ia).1
    go_upto_if 47 with fail
    go_cut [9] (fun s9 wx => s9 = .int .i64 (sizeA a.kind : Nat) ∧ w3 = wx)
    case first =>
      by_cases hk : a.kind = 3
      · have ek : (a.kind == 3) = true := by simpa using hk
        rw [if_pos hk] at SZ
        have SZ := hide SZ
        clear hk s1
        go_wp2
        go_meet
        exact ⟨by rw [SZ.out]; rfl, rfl⟩
      · have ek : (a.kind == 3) = false := by simpa using hk
        rw [if_neg hk] at SZ
        have SZ := hide SZ
        clear hk s1
        go_wp2
        go_meet
        exact ⟨by rw [SZ.out]; rfl, rfl⟩
    case rest =>
      obtain ⟨rfl, rfl⟩ := hcut
      have hsz : sizeA a.kind ≤ 12 := by rw [SZ]; split <;> omega
      generalize sizeA a.kind = sz at *
      have PP1 := hide PP.out.1
      have PP2 := hide PP.out.2.1
      have zl : sz ≤ z.2.size := PP.out.2.2
      have zl2 : (sz : Int) ≤ (z.2.size : Int) := by omega
      have x1 := X3.out.cell 1
      simp at x1
      clear PP SZ y0 y1 e5 e26 e13 el x0
      go_wp2_with fail
      rw [PP1.out]
      refine (PA.out _).mono ?_
      rintro e w4 ⟨p4, c4, rfl, L4, hb4⟩
      have H4 := hide (H3.out.step hb4)
      have X4 := hide (X3.out.step hb4)
      have A4 := hide L4
      clear hb4 L4 H3 X3 x1 PP1 PA
      have BN := hide hn
      generalize hh : heldA a = L at *
      have hh := hide hh
      have nz : ¬ ((L.length : Int) + 1) = 0 := by omega
      go_upto_region 13 with fail
      obtain ⟨K, hK, eK⟩ := place_nat n L.length (by omega)
      rw [eK]
      have kc : (K : Int) ≤ (c4 : Int) := by have := (lstO_cap A4.out).2.1; omega
      have nc : L.length ≤ c4 := (lstO_cap A4.out).2.1
      have MM := hide (show moreL a o K = L.take K ++ (o :: (L.drop K ++ if 0 ≤ a.code then [awT] else [])) by unfold moreL; rw [hh.out])
      have tl : (L.take K).length = K := by rw [List.length_take]; omega
      have dl : (L.drop K).length = L.length - K := List.length_drop
      clear eK nz hh
      go_upto_region 14 with (at_make; refine wpList_make_O rfl _ _ rfl (L.length + 2) _ _ _ rfl rfl (by omega) (by omega) ?_; intro w5 q1 q2; have O5 := hide q1; have D5 := hide q2; clear q1 q2)
      have V5 := hide (lstO_cut (A4.out.step D5.out) hK)
      have z5 := D5.out.size
      go_upto_region 15 with (at_builtin; refine wpList_append_lstO rfl (.tmp 70) (.tmp 73) rfl w4.heap.size _ [] rfl O5.out _ (L.take K) rfl V5.out (by simp; omega) z5 ?_; intro v6 w6 q1 q2 q3; have O6 := hide q1; have D6 := hide (D5.out.trans q2); clear q1 q2 q3)
      rw [List.nil_append] at O6
      have y0 := (H4.out.step D6.out).op.cell 0
      have y1 := (H4.out.step D6.out).op.cell 1
      simp at y0 y1
      have z6 := D6.out.size
      have O7 := hide (World.ownsRow.alloc O6.out (.cells (cellsZ o) 40))
      have D7 := hide (D6.out.alloc z6 (.cells (cellsZ o) 40))
      have z7 := D7.out.size
      clear O5 D5 V5 z5
      go_upto_region 16 with (at_builtin; refine wpList_append_oneO rfl (.tmp 75) (.tmp 77) rfl w4.heap.size _ (L.take K) rfl O7.out w6.heap.size 1 o rfl own_two (by omega) z7 ?_; intro g cap w8 q1 q2 q3 q4; rw [tl] at q1; have O8 := hide q1; have D8 := hide (D7.out.trans q2); clear q1 q2 q3 q4)
      clear O6 D6 O7 D7 y0 y1 z6 z7
      have z8 := D8.out.size
      have kl : ((L.take K ++ [o]).length + (L.drop K).length) * 24 ≤ 140737488355328 := by rw [List.length_append, tl, dl, List.length_singleton]; omega
      go_cut [12] (fun s12 wx => Hid (OwnO wx w4.heap.size s12 (L.take K ++ [o] ++ L.drop K)) ∧ Hid (Below w4.heap.size w4 wx))
      case first =>
        by_cases hc : c4 = K
        · have V8 := hide (lstO_dropE (A4.out.step D8.out) hK hc)
          rw [show L.length - K = 0 by omega] at V8
          subst hc
          go_upto_region 17 with (at_builtin; refine wpList_append_lstO rfl (.tmp 79) (.tmp 82) rfl w4.heap.size _ (L.take c4 ++ [o]) rfl O8.out _ (L.drop c4) rfl V8.out kl z8 ?_; intro v9 w9 q1 q2 q3; have O9 := hide q1; have D9 := hide (D8.out.trans q2); clear q1 q2 q3)
          go_meet
          exact ⟨O9, D9⟩
        · have V8 := hide (lstO_dropN (A4.out.step D8.out) hK hc)
          go_upto_region 17 with (at_builtin; refine wpList_append_lstO rfl (.tmp 79) (.tmp 82) rfl w4.heap.size _ (L.take K ++ [o]) rfl O8.out _ (L.drop K) rfl V8.out kl z8 ?_; intro v9 w9 q1 q2 q3; have O9 := hide q1; have D9 := hide (D8.out.trans q2); clear q1 q2 q3)
          go_meet
          exact ⟨O9, D9⟩
      case rest =>
        obtain ⟨O9, D9⟩ := hcut
        have k9 : (L.take K ++ [o] ++ L.drop K).length + 1 ≤ 1000 := by rw [List.length_append, List.length_append, tl, dl, List.length_singleton]; omega
        clear O8 D8 z8 kl nc kc hK A4 tl dl
        generalize hP : L.take K ++ [o] ++ L.drop K = pre at *
        have hP := hide hP
        have y5 := (ia_cells (H4.out.step D9.out).ia).2.2.2.2.2
        have z9 := D9.out.size
        go_upto_if 86 with fail
        go_cut [12] (fun s12 wx => Hid (OwnO wx w4.heap.size s12 (moreL a o K)) ∧ Hid (Below w4.heap.size w4 wx))
        case first =>
          by_cases hc : 0 ≤ a.code
          · have M2 := hide (show moreL a o K = pre ++ [awT] by rw [MM.out, if_pos hc, ← hP.out]; simp)
            have O10 := hide (World.ownsRow.alloc O9.out (.cells (cellsZ awT) 40))
            have D10 := hide (D9.out.alloc z9 (.cells (cellsZ awT) 40))
            have z10 := D10.out.size
            go_upto_region 19 with (at_builtin; refine wpList_append_oneO rfl (.tmp 87) (.tmp 89) rfl w4.heap.size _ pre rfl O10.out wc.heap.size 1 awT rfl own_two (by omega) z10 ?_; intro g cap w11 q1 q2 q3 q4; have O11 := hide q1; have D11 := hide (D10.out.trans q2); clear q1 q2 q3 q4)
            go_meet
            exact ⟨by rw [M2.out]; exact O11, D11⟩
          · have M2 := hide (show moreL a o K = pre by rw [MM.out, if_neg hc, ← hP.out]; simp)
            go_upto_region 19 with fail
            go_meet
            exact ⟨by rw [M2.out]; exact O9, D9⟩
        case rest =>
          obtain ⟨OM, DM⟩ := hcut
          obtain ⟨mo1, mo2⟩ := MO2.out K
          have EM := hide (fun v W (h : LstO v (moreL a o K) W) => emit_yes (by omega) mo1 W h)
          have LM := hide (ownO_lst OM.out)
          have HC0 := hide (show IGw w a (.slice pv a.has.length cv) o w2.heap.size z wc from ⟨H4.out.step DM.out, X4.out.step DM.out⟩)
          have GI := hide (fun W => getIA_own (MR2.out K) (by rw [bs_len, List.length_append, hla]; have := emit_len mo1; unfold maxLen; omega) W)
          have N5 : ¬ 9223372036854775807 < (headA a).length + (emitL (moreL a o K)).length := by have := emit_len mo1; omega
          have CK := CK.out
          rw [← CK] at GI
          obtain ⟨hq, ehd⟩ : ∃ hq, headA a = hq := ⟨_, rfl⟩
          obtain ⟨sm, esm⟩ : ∃ sm, emitL (moreL a o K) = sm := ⟨_, rfl⟩
          obtain ⟨l5, e5⟩ : ∃ l5, hq ++ sm = l5 := ⟨_, rfl⟩
          rw [ehd, esm] at N5
          rw [ehd] at PP2
          rw [ehd, esm, e5] at GI
          rw [esm] at EM
          have E5 := hide e5
          clear OM DM mo1 mo2 MM MO2 MR2 hP k9 O9 D9 z9 y5 H4 X4 hla ehd esm e5 CK BN s1 s2 s3 HL
          go_wp2_with fail
          refine (EM.out _ _ LM.out).mono ?_
          rintro e wE ⟨rfl, hbE⟩
          have HC := hide (HC0.out.step hbE)
          clear hbE HC0 LM EM
          go_wp2_with fail
          refine wp_region_relU (IGw w a (.slice pv a.has.length cv) o w2.heap.size z) 14 (Xst (w.heap.size + 2)) [some 99, some 100, some 101, some 102, some 103, some 104, some 105, some 106, some 107, some 108, some 98, some 109, some 110, some 14, none, some 8] [fun vs _ => vs 0 = .pointer (some ⟨w2.heap.size, 0, none⟩), fun vs _ => vs 1 = .int .u16 (z.1.toNat : Int), fun vs _ => vs 2 = .pointer (some ⟨w2.heap.size, 1, none⟩), fun vs _ => vs 3 = .string z.2, fun vs _ => vs 4 = .int .i64 (sz : Nat), fun vs _ => vs 5 = .string ⟨hq.toArray⟩, fun vs _ => vs 6 = .string ⟨sm.toArray⟩, fun vs _ => vs 7 = .string ⟨l5.toArray⟩, fun vs _ => vs 8 = .agg #[.int .u16 (z.1.toNat : Int), .string ⟨l5.toArray⟩], fun vs W => ∃ v9, vs 9 = .tuple #[AV a v9, .int .i64 0] ∧ OwnI W 0 v9 a.has, fun vs W => ∃ v9, vs 10 = .tuple #[AV a v9, .int .i64 0] ∧ OwnI W 0 v9 a.has, fun vs W => ∃ v9, vs 11 = AV a v9 ∧ OwnI W 0 v9 a.has, fun vs _ => vs 12 = .int .i64 0, fun vs W => BoxA (w.heap.size + 2) (vs 13) W, fun vs W => ∃ g v9, vs 13 = .pointer (some ⟨g, 0, none⟩) ∧ w.heap.size + 2 ≤ g ∧ Bx g 37 (cellsA a v9) W ∧ OwnI W 0 v9 a.has, fun vs _ => vs 15 = .int .i64 0] 118 (by kernel_rfl) (by kernel_rfl) rfl rfl (HC.out.step (Below.refl _ _).drew) ?_ ?_
          · refine ⟨⟨fun _ _ _ _ _ _ e _ h _ => e.trans h, fun a' us W K hD hC hd hf hK => ?_⟩, ⟨fun _ _ _ _ _ _ e _ h _ => e.trans h, fun a' us W K hD hC hd hf hK => ?_⟩, ⟨fun _ _ _ _ _ _ e _ h _ => e.trans h, fun a' us W K hD hC hd hf hK => ?_⟩, ⟨fun _ _ _ _ _ _ e _ h _ => e.trans h, fun a' us W K hD hC hd hf hK => ?_⟩, ⟨fun _ _ _ _ _ _ e _ h _ => e.trans h, fun a' us W K hD hC hd hf hK => ?_⟩, ⟨fun _ _ _ _ _ _ e _ h _ => e.trans h, fun a' us W K hD hC hd hf hK => ?_⟩, ⟨fun _ _ _ _ _ _ e _ h _ => e.trans h, fun a' us W K hD hC hd hf hK => ?_⟩, ⟨fun _ _ _ _ _ _ e _ h _ => e.trans h, fun a' us W K hD hC hd hf hK => ?_⟩, ⟨fun _ _ _ _ _ _ e _ h _ => e.trans h, fun a' us W K hD hC hd hf hK => ?_⟩, ⟨fun _ _ _ _ _ _ e _ ⟨v9, h, L⟩ hs => ⟨v9, e.trans h, ownI_st L hs⟩, fun a' us W K hD hC hd hf hK => ?_⟩, ⟨fun _ _ _ _ _ _ e _ ⟨v9, h, L⟩ hs => ⟨v9, e.trans h, ownI_st L hs⟩, fun a' us W K hD hC hd hf hK => ?_⟩, ⟨fun _ _ _ _ _ _ e _ ⟨v9, h, L⟩ hs => ⟨v9, e.trans h, ownI_st L hs⟩, fun a' us W K hD hC hd hf hK => ?_⟩, ⟨fun _ _ _ _ _ _ e _ h _ => e.trans h, fun a' us W K hD hC hd hf hK => ?_⟩, ⟨fun _ _ _ _ _ _ e _ h hs => BoxA.st2 e h hs, fun a' us W K hD hC hd hf hK => ?_⟩, ⟨fun _ _ _ _ _ hk _ hd ⟨g, v9, h1, h2, h3, h4⟩ hs => ⟨g, v9, (hd 13 (by kernel_rfl)).trans h1, h2, h3.step (hs.ne hk), own_keep h4 (hs.ne hk)⟩, fun a' us W K hD hC hd hf hK => ?_⟩, ⟨fun _ _ _ _ _ _ e _ h _ => e.trans h, fun a' us W K hD hC hd hf hK => ?_⟩, trivial⟩
            · refine op_plain rfl ?_
              have f7 : a'.tmps[7]?.getD undef = .pointer (some ⟨w2.heap.size, 0, none⟩) := (hf.out 7 (by kernel_rfl)).trans (by simp)
              go_simp
              exact hK.out _ _ hC (Below.refl _ _) (updF_at _ _ _)
            · refine op_plain rfl ?_
              have d99 : a'.tmps[99]?.getD undef = .pointer (some ⟨w2.heap.size, 0, none⟩) := ((hd.out 0 (by kernel_rfl)).2 99 rfl).trans (hd.out 0 (by kernel_rfl)).1
              obtain ⟨hM, hX⟩ := id hC
              have y0 : W.cell? ⟨w2.heap.size, 0, none⟩ = some (.int .u16 (z.1.toNat : Int)) := hX.cell 0
              have y1 : W.cell? ⟨w2.heap.size, 1, none⟩ = some (.string z.2) := hX.cell 1
              go_simp
              exact hK.out _ _ hC (Below.refl _ _) (updF_at _ _ _)
            · refine op_plain rfl ?_
              have f7 : a'.tmps[7]?.getD undef = .pointer (some ⟨w2.heap.size, 0, none⟩) := (hf.out 7 (by kernel_rfl)).trans (by simp)
              go_simp
              exact hK.out _ _ hC (Below.refl _ _) (updF_at _ _ _)
            · refine op_plain rfl ?_
              have d101 : a'.tmps[101]?.getD undef = .pointer (some ⟨w2.heap.size, 1, none⟩) := ((hd.out 2 (by kernel_rfl)).2 101 rfl).trans (hd.out 2 (by kernel_rfl)).1
              obtain ⟨hM, hX⟩ := id hC
              have y0 : W.cell? ⟨w2.heap.size, 0, none⟩ = some (.int .u16 (z.1.toNat : Int)) := hX.cell 0
              have y1 : W.cell? ⟨w2.heap.size, 1, none⟩ = some (.string z.2) := hX.cell 1
              go_simp
              exact hK.out _ _ hC (Below.refl _ _) (updF_at _ _ _)
            · refine op_plain rfl ?_
              have f9 : a'.tmps[9]?.getD undef = .int .i64 (sz : Nat) := (hf.out 9 (by kernel_rfl)).trans (by simp)
              go_simp
              exact hK.out _ _ hC (Below.refl _ _) (updF_at _ _ _)
            · refine op_plain rfl ?_
              have d102 : a'.tmps[102]?.getD undef = .string z.2 := ((hd.out 3 (by kernel_rfl)).2 102 rfl).trans (hd.out 3 (by kernel_rfl)).1
              have d103 : a'.tmps[103]?.getD undef = .int .i64 (sz : Nat) := ((hd.out 4 (by kernel_rfl)).2 103 rfl).trans (hd.out 4 (by kernel_rfl)).1
              go_simp
              exact hK.out _ _ hC (Below.refl _ _) ((updF_at _ _ _).trans (congrArg Value.string PP2.out))
            · refine op_plain rfl ?_
              have f13 : a'.tmps[13]?.getD undef = .string ⟨sm.toArray⟩ := (hf.out 13 (by kernel_rfl)).trans (by simp)
              go_simp
              exact hK.out _ _ hC (Below.refl _ _) (updF_at _ _ _)
            · refine op_plain rfl ?_
              have d104 : a'.tmps[104]?.getD undef = .string ⟨hq.toArray⟩ := ((hd.out 5 (by kernel_rfl)).2 104 rfl).trans (hd.out 5 (by kernel_rfl)).1
              have d105 : a'.tmps[105]?.getD undef = .string ⟨sm.toArray⟩ := ((hd.out 6 (by kernel_rfl)).2 105 rfl).trans (hd.out 6 (by kernel_rfl)).1
              go_simp
              exact hK.out _ _ hC (Below.refl _ _) ((updF_at _ _ _).trans (congrArg Value.string ((cat2 hq sm).trans (congrArg bs E5.out))))
            · refine op_plain rfl ?_
              have d100 : a'.tmps[100]?.getD undef = .int .u16 (z.1.toNat : Int) := ((hd.out 1 (by kernel_rfl)).2 100 rfl).trans (hd.out 1 (by kernel_rfl)).1
              have d106 : a'.tmps[106]?.getD undef = .string ⟨l5.toArray⟩ := ((hd.out 7 (by kernel_rfl)).2 106 rfl).trans (hd.out 7 (by kernel_rfl)).1
              go_simp
              exact hK.out _ _ hC (Below.refl _ _) (updF_at _ _ _)
            · refine op_plain rfl ?_
              have d107 : a'.tmps[107]?.getD undef = .agg #[.int .u16 (z.1.toNat : Int), .string ⟨l5.toArray⟩] := ((hd.out 8 (by kernel_rfl)).2 107 rfl).trans (hd.out 8 (by kernel_rfl)).1
              go_simp
              go_at_call 23
              refine (GI.out W).mono ?_
              rintro e w6 ⟨v6, rfl, L6, hb6⟩
              exact hK.out _ _ (hC.step hb6) hb6 ⟨v6, updF_at _ _ _, L6⟩
            · refine op_plain rfl ?_
              have d108 := (hd.out 9 (by kernel_rfl)).2 108 rfl
              have r108 := (hd.out 9 (by kernel_rfl)).1
              change (fun vs W => ∃ v9, vs 9 = .tuple #[AV a v9, .int .i64 0] ∧ OwnI W 0 v9 a.has) us W at r108
              obtain ⟨v9, e9, L9⟩ := r108
              rw [e9] at d108
              go_simp
              exact hK.out _ _ hC (Below.refl _ _) ⟨v9, updF_at _ _ _, L9⟩
            · refine op_plain rfl ?_
              have d98 := (hd.out 10 (by kernel_rfl)).2 98 rfl
              have r98 := (hd.out 10 (by kernel_rfl)).1
              change (fun vs W => ∃ v9, vs 10 = .tuple #[AV a v9, .int .i64 0] ∧ OwnI W 0 v9 a.has) us W at r98
              obtain ⟨v9, e9, L9⟩ := r98
              rw [e9] at d98
              go_simp
              exact hK.out _ _ hC (Below.refl _ _) ⟨v9, updF_at _ _ _, L9⟩
            · refine op_plain rfl ?_
              have d98 := (hd.out 10 (by kernel_rfl)).2 98 rfl
              have r98 := (hd.out 10 (by kernel_rfl)).1
              change (fun vs W => ∃ v9, vs 10 = .tuple #[AV a v9, .int .i64 0] ∧ OwnI W 0 v9 a.has) us W at r98
              obtain ⟨v9, e9, L9⟩ := r98
              rw [e9] at d98
              go_simp
              exact hK.out _ _ hC (Below.refl _ _) (updF_at _ _ _)
            · refine op_plain rfl ?_
              go_simp
              exact hK.out _ _ (hC.step (below_alloc _ _)) (below_alloc _ _) ⟨W.heap.size, updF_at _ _ _, Nat.succ_le_of_lt hC.1.op.lt, zeroA, rfl, bx_new W _ _⟩
            · refine op_plain rfl ?_
              have d14 := (hd.out 13 (by kernel_rfl)).2 14 rfl
              have r14 := (hd.out 13 (by kernel_rfl)).1
              change (fun vs W => BoxA (w.heap.size + 2) (vs 13) W) us W at r14
              have d109 := (hd.out 11 (by kernel_rfl)).2 109 rfl
              have r109 := (hd.out 11 (by kernel_rfl)).1
              change (fun vs W => ∃ v9, vs 11 = AV a v9 ∧ OwnI W 0 v9 a.has) us W at r109
              obtain ⟨g, e13, zg, cs, hz, X13⟩ := r14
              obtain ⟨v9, e9, L9⟩ := r109
              obtain ⟨p9, c9, rfl⟩ := lstI_len (ownI_lst L9)
              rw [e13] at d14
              rw [e9] at d109
              refine wp_store_row 37 (.tmp 14) (.tmp 109) rfl g (cellsA a (.slice p9 a.has.length c9)) (by simpa [Act.eval] using d14) (by simpa [Act.eval] using d109) _ cs X13 infoIA hz (by rw [← Array.all_toList]; rfl) ?_
              have G9 : Bx g 37 (cellsA a (.slice p9 a.has.length c9)) (W.setRow g (cellsA a (.slice p9 a.has.length c9))) := setRow_heap W g _ _ _ _ X13
              have F9 := fr_setRow W g (cellsA a (.slice p9 a.has.length c9))
              exact hK.out _ _ (hC.st zg X13 F9) ⟨g, cs, zg, X13, F9, cellsA a (.slice p9 a.has.length c9), rfl, G9⟩ ⟨g, _, (updF_ne (by decide)).trans e13, zg, G9, own_beside L9 X13 (by decide) F9⟩
            · refine op_plain rfl ?_
              have d110 : a'.tmps[110]?.getD undef = .int .i64 0 := ((hd.out 12 (by kernel_rfl)).2 110 rfl).trans (hd.out 12 (by kernel_rfl)).1
              go_simp
              exact hK.out _ _ hC (Below.refl _ _) (updF_at _ _ _)
          · intro vs W5 hC hR
            have q0 : vs 0 = .pointer (some ⟨w2.heap.size, 0, none⟩) := hR.out 0 (by decide)
            have q1 : vs 1 = .int .u16 (z.1.toNat : Int) := hR.out 1 (by decide)
            have q2 : vs 2 = .pointer (some ⟨w2.heap.size, 1, none⟩) := hR.out 2 (by decide)
            have q3 : vs 3 = .string z.2 := hR.out 3 (by decide)
            have q4 : vs 4 = .int .i64 (sz : Nat) := hR.out 4 (by decide)
            have q5 : vs 5 = .string ⟨hq.toArray⟩ := hR.out 5 (by decide)
            have q6 : vs 6 = .string ⟨sm.toArray⟩ := hR.out 6 (by decide)
            have q7 : vs 7 = .string ⟨l5.toArray⟩ := hR.out 7 (by decide)
            have q8 : vs 8 = .agg #[.int .u16 (z.1.toNat : Int), .string ⟨l5.toArray⟩] := hR.out 8 (by decide)
            have r9 := hR.out 9 (by decide)
            change (fun vs W => ∃ v9, vs 9 = .tuple #[AV a v9, .int .i64 0] ∧ OwnI W 0 v9 a.has) vs W5 at r9
            have r10 := hR.out 10 (by decide)
            change (fun vs W => ∃ v9, vs 10 = .tuple #[AV a v9, .int .i64 0] ∧ OwnI W 0 v9 a.has) vs W5 at r10
            have r11 := hR.out 11 (by decide)
            change (fun vs W => ∃ v9, vs 11 = AV a v9 ∧ OwnI W 0 v9 a.has) vs W5 at r11
            have q12 : vs 12 = .int .i64 0 := hR.out 12 (by decide)
            have r13 := hR.out 13 (by decide)
            change (fun vs W => BoxA (w.heap.size + 2) (vs 13) W) vs W5 at r13
            have r14 := hR.out 14 (by decide)
            change (fun vs W => ∃ g v9, vs 13 = .pointer (some ⟨g, 0, none⟩) ∧ w.heap.size + 2 ≤ g ∧ Bx g 37 (cellsA a v9) W ∧ OwnI W 0 v9 a.has) vs W5 at r14
            have q15 : vs 15 = .int .i64 0 := hR.out 15 (by decide)
            clear hR
            simp only [fillF, Act.put, List.setIfInBounds_toArray, List.set_cons_zero, List.set_cons_succ, Nat.reduceAdd, q0, q1, q2, q3, q4, q5, q6, q7, q8, q12, q15]
            clear q0 q1 q2 q3 q4 q5 q6 q7 q8 q12 q15
            generalize vs 9 = q9 at *
            generalize vs 10 = q10 at *
            generalize vs 11 = q11 at *
            generalize vs 13 = q13 at *
            generalize vs 14 = q14 at *
            obtain ⟨g, v9, e13, zg, X9, L9⟩ := r14
            obtain ⟨p9, c9, rfl⟩ := lstI_len (ownI_lst L9)
            subst e13
            have H9 := hide hC.1
            have L10 := hide (ownI_lst L9)
            have X9 := hide X9
            obtain ⟨x0, x1, x2, x3, x4, x5⟩ := ia_cells H9.out.ia
            obtain ⟨t0, t1, t2, t3, t4, t5⟩ := ia_cells X9.out
            clear r9 r10 r11 r13 hC HC L9
            go_wp2_with fail
            refine (ias_yes a (by assumption) _ (HV.out _ H9.out.below) L10.out).mono ?_
            rintro e wA ⟨rfl, hbA⟩
            have DA := hide (chain H9.out.below hbA)
            clear hbA H9 L10 X9 x0 x1 x2 x3 x4 x5 t0 t1 t2 t3 t4 t5
            go_wp2
            go_ret
            exact ⟨rfl, DA.out⟩
end Go.Proofs.Ytcpldojgmboipaa
