/-
  The document's own GetIA. Conditions: a string is no longer than an int.
-/
import Derived.Test.YtcpldojgmboipaaSrN
import Derived.Test.YtcpldojgmboipaaSxG
import Derived.Test.YtcpldojgmboipaaRgU
import Derived.Deep.DeepCutAuto
import Derived.Deep.CutBlock
namespace Go.Proofs.Ytcpldojgmboipaa
open Go.RowKit Go.Joins

theorem ga_ok {o : Opt} {a : IA} (h : readA o = .ok a) : getE o = 0 ∧ getV6 o = a := by unfold getE getV6; rw [h]; exact ⟨rfl, rfl⟩
theorem ga_no {o : Opt} {y : Int} (h : readA o = .error y) : getE o = y ∧ getV6 o = zeroIA := by unfold getE getV6; rw [h]; exact ⟨rfl, rfl⟩
abbrev freshA (k : Int) : Array Value := #[.int .i64 k, .int .u32 0, .int .u32 0, .int .u32 0, .slice none 0 0, .int .i64 (-1)]
abbrev threeB (w : World) (o : Opt) (cs : Array Value) : World := ((w.alloc (.cells #[.int .u16 (o.1.toNat : Int), .string o.2] 40)).alloc (.cells zeroA 37)).alloc (.cells cs 37)
/-- the memory of GetIA ahead of its loop -/
structure GHw (w : World) (cs : Array Value) (W : World) : Prop where
  below : Below w.heap.size w W
  res : Bx (w.heap.size + 1) 37 zeroA W
  box : Bx (w.heap.size + 2) 37 cs W
theorem gh_new (w : World) (o : Opt) (cs : Array Value) : GHw w cs (threeB w o cs) := by
  have B := below_alloc w (.cells #[.int .u16 (o.1.toNat : Int), .string o.2] 40)
  have B2 := below_alloc (w.alloc (.cells #[.int .u16 (o.1.toNat : Int), .string o.2] 40)) (.cells zeroA 37)
  have B3 := below_alloc ((w.alloc (.cells #[.int .u16 (o.1.toNat : Int), .string o.2] 40)).alloc (.cells zeroA 37)) (.cells cs 37)
  have X2 := (bx_new (w.alloc (.cells #[.int .u16 (o.1.toNat : Int), .string o.2] 40)) 37 zeroA).step B3
  have X3 := bx_new ((w.alloc (.cells #[.int .u16 (o.1.toNat : Int), .string o.2] 40)).alloc (.cells zeroA 37)) 37 cs
  exact ⟨chain (chain B B2) B3, by simpa using X2, by simpa using X3⟩
theorem GHw.step {w : World} {cs : Array Value} {W W2 : World} (h : GHw w cs W) (hb : Below W.heap.size W W2) : GHw w cs W2 := ⟨chain h.below hb, h.res.step hb, h.box.step hb⟩
/-- the memory of its loop -/
structure GKw (w : World) (cs : Array Value) (vh : Value) (has : List In) (v : Value) (l : List Opt) (W : World) : Prop where
  below : Below w.heap.size w W
  res : Bx (w.heap.size + 1) 37 zeroA W
  box : Bx (w.heap.size + 2) 37 cs W
  hs : OwnI W (w.heap.size + 3) vh has
  row : OwnO W (w.heap.size + 3) v l
  room : w.heap.size + 3 ≤ W.heap.size
theorem GKw.step {w : World} {cs : Array Value} {vh v : Value} {has : List In} {l : List Opt} {W W2 : World} (h : GKw w cs vh has v l W) (hb : Below W.heap.size W W2) : GKw w cs vh has v l W2 := ⟨chain h.below hb, h.res.step hb, h.box.step hb, own_keep h.hs hb, own_keep h.row hb, Nat.le_trans h.room hb.size⟩
theorem GKw.set {w : World} {cs : Array Value} {vh v : Value} {has : List In} {l : List Opt} {W : World} (h : GKw w cs vh has v l W) (i : Nat) (x : Value) : GKw w (cs.setIfInBounds i x) vh has v l (W.setCell ⟨w.heap.size + 2, i, none⟩ x) :=
  ⟨h.below.setCell (by show w.heap.size ≤ w.heap.size + 2; omega) x, h.res.other (by show w.heap.size + 1 ≠ w.heap.size + 2; omega) x, h.box.set i x, own_fr h.hs (fr_set W (w.heap.size + 2) i x) (fun g hg e => by have := own_ge h.hs g hg.symm; omega), own_fr h.row (fr_set W (w.heap.size + 2) i x) (fun g hg e => by have := own_ge h.row g hg.symm; omega), Nat.le_trans h.room (fr_set W (w.heap.size + 2) i x).size⟩
theorem GKw.add {w : World} {cs : Array Value} {vh v vn : Value} {has hn : List In} {l : List Opt} {W W2 : World} (h : GKw w cs vh has v l W) (hr : OwnI W2 (w.heap.size + 3) vn hn) (hg : W.grownBy W2 vh.ownBlock) : GKw w cs vn hn v l W2 := by
  have hf := Fr.grown hg
  have ge := own_ge h.hs
  exact ⟨h.below.trans (hf.below h.below.size (fun k e => by have := ge k e; omega)), h.res.fr hf (fun e => by have := ge _ e; omega), h.box.fr hf (fun e => by have := ge _ e; omega), hr, own_fr h.row hf (fun g e1 e2 => own_apart h.row h.hs (by decide) g e1 e2), Nat.le_trans h.room hf.size⟩
theorem GHw.loop {w : World} {A : IA} {c : Int} {W W2 : World} (h : GHw w (cellsK A c (.slice none 0 0)) W) {v : Value} {l : List Opt} (ho : OwnO W2 W.heap.size v l) (hb : Below W.heap.size W W2) : GKw w (cellsK A c (.slice none 0 0)) (.slice none 0 0) [] v l W2 :=
  ⟨chain h.below hb, h.res.step hb, h.box.step hb, ownI_nil _ _, ownO_base ho (by have := h.box.lt; omega), by have := h.box.lt; have := hb.size; omega⟩
/-- a box of one of Has at or above b, apart from a row, is written -/
def XstN (b : Nat) (vh : Value) (W W2 : World) : Prop := ∃ g cs, b ≤ g ∧ vh.ownBlock ≠ some g ∧ Bx g 74 cs W ∧ Fr (fun k => k = g) W W2 ∧ ∃ cs2 : Array Value, cs2.size = 6 ∧ Bx g 74 cs2 W2
def BoxN (b : Nat) (vh : Value) (x : Value) (W : World) : Prop := ∃ g, x = .pointer (some ⟨g, 0, none⟩) ∧ b ≤ g ∧ vh.ownBlock ≠ some g ∧ ∃ cs : Array Value, cs.size = 6 ∧ Bx g 74 cs W
theorem BoxN.st {b s k : Nat} {vh x y : Value} {W W2 : World} (e : y = x) (h : BoxN b vh x W) (hs : StK s (XstN b vh) k W W2) : BoxN b vh y W2 := by
  subst e
  obtain ⟨g, e, hb, hn, cs, hz, hx⟩ := h
  rcases hs.or with ⟨g2, cs2, _, _, h2, h3, cs3, h4, h5⟩ | h2
  · by_cases hg : g = g2
    · subst hg
      exact ⟨g, e, hb, hn, cs3, h4, h5⟩
    · exact ⟨g, e, hb, hn, cs, hz, hx.fr h3 hg⟩
  · exact ⟨g, e, hb, hn, cs, hz, hx.step h2⟩
theorem bx_apart {g b : Nat} {t u : TypeId} {cs ds : Array Value} {W : World} (h : Bx g t cs W) (h2 : Bx b u ds W) (ht : t ≠ u) : b ≠ g := by
  intro e
  subst e
  unfold Bx at h h2
  rw [h] at h2
  cases h2
  exact ht rfl
theorem fr_row (w : World) (b : Nat) (new : Array Value) : Fr (fun k => k = b) w (w.setRow b new) := by
  have B := below_setRow (Below.refl b w) (Nat.le_refl b) new
  exact ⟨B.os, B.tape, B.output, by simp [World.setRow], fun k _ hk => setRow_other w b k _ hk⟩
theorem row_beside {W W2 : World} {base g size n : Nat} {e t : TypeId} {v : Value} {xs : List Value} {cs : Array Value} (h : W.ownsRow base e size v n xs) (hb : Bx g t cs W) (ht : e ≠ t) (hf : Fr (fun k => k = g) W W2) : W2.ownsRow base e size v n xs := by
  refine own_fr h hf (fun k hk e2 => ?_)
  subst e2
  rcases h.2 with ⟨rfl, _⟩ | ⟨g2, cap, cur, rfl, _, h3, _⟩
  · cases hk
  · cases hk
    unfold Bx at hb
    rw [show W.heap[(⟨g2, 0, none⟩ : Go.Addr).block]? = W.heap[g2]? from rfl] at hb
    rw [hb] at h3
    cases h3
    exact ht rfl
theorem GKw.st {w : World} {cs : Array Value} {vh v : Value} {has : List In} {l : List Opt} {W W2 : World} (h : GKw w cs vh has v l W) {g : Nat} {ds : Array Value} (hg : w.heap.size + 3 ≤ g) (hn : vh.ownBlock ≠ some g) (hx : Bx g 74 ds W) (hf : Fr (fun k => k = g) W W2) : GKw w cs vh has v l W2 :=
  ⟨h.below.trans (hf.below h.below.size (fun k e => by omega)), h.res.fr hf (bx_apart hx h.res (by decide)), h.box.fr hf (bx_apart hx h.box (by decide)), own_fr h.hs hf (fun k hk e => hn (by rw [hk, e])), row_beside h.row hx (by decide) hf, Nat.le_trans h.room hf.size⟩
theorem inb_cells {b : Nat} {x : In} {W : World} (h : Bx b 74 (cellsV x).toArray W) : W.cell? ⟨b, 0, none⟩ = some (.int .u64 (hi x.addr : Nat)) ∧ W.cell? ⟨b, 1, none⟩ = some (.int .u64 (lo x.addr : Nat)) ∧ W.cell? ⟨b, 2, none⟩ = some (.int .i64 x.bits) ∧ W.cell? ⟨b, 3, none⟩ = some (.int .u32 (x.pref.toNat : Int)) ∧ W.cell? ⟨b, 4, none⟩ = some (.int .u32 (x.valid.toNat : Int)) ∧ W.cell? ⟨b, 5, none⟩ = some (.int .i64 x.code) :=
  ⟨h.cell 0, h.cell 1, h.cell 2, h.cell 3, h.cell 4, h.cell 5⟩
theorem kindK_inv {c : Nat} {k : Int} (h : kindK c = k) (h0 : ¬ k = 0) : (k = 2 ∧ c = 3) ∨ (k = 3 ∧ c = 4) ∨ (k = 4 ∧ c = 25) := by
  unfold kindK at h
  split at h
  · exact Or.inl ⟨h.symm, by assumption⟩
  · split at h
    · exact Or.inr (Or.inl ⟨h.symm, by assumption⟩)
    · split at h
      · exact Or.inr (Or.inr ⟨h.symm, by assumption⟩)
      · exact absurd h.symm h0
theorem readA_parts {o : Opt} {k : Int} (hk : kindK o.1.toNat = k) (h0 : ¬ k = 0) (hz : sizeA k ≤ o.2.size) {A : IA} (hA : mkA k (lb o.2) (-1, []) = A) :
    (∀ y, parseK 0 ((lb o.2).drop (sizeA k)) = .error y → getE o = y ∧ getV6 o = zeroIA) ∧
      ∀ l, parseK 0 ((lb o.2).drop (sizeA k)) = .ok l → (∀ y, walkF k (-1) [] l = .error y → getE o = y ∧ getV6 o = zeroIA) ∧ ∀ p, walkF k (-1) [] l = .ok p → getE o = 0 ∧ getV6 o = { A with code := p.1, has := p.2 } := by
  obtain ⟨r1, r2⟩ := readA_go hk h0 hz hA
  exact ⟨fun y hy => ga_no (r1 y hy), fun l hl => ⟨fun y hy => ga_no ((r2 l hl).1 y hy), fun p hp => ga_ok ((r2 l hl).2 p hp)⟩⟩
set_option maxRecDepth 100000 in
set_option maxHeartbeats 16000000 in
theorem rgetIA_any (o : Opt) (hs : o.2.size ≤ maxLen) (w : World) : Calls Try.prog 24 #[OV o] w (GetP o w) := by
  have hs2 : o.2.size ≤ 9223372036854775807 := by unfold maxLen at hs; exact hs
  obtain ⟨k, hk⟩ : ∃ k, kindK o.1.toNat = k := ⟨_, rfl⟩
  have e3 : ((o.1.toNat : Int) == 3) = decide (o.1.toNat = 3) := by rw [Bool.eq_iff_iff]; simp; omega
  have e4 : ((o.1.toNat : Int) == 4) = decide (o.1.toNat = 4) := by rw [Bool.eq_iff_iff]; simp; omega
  have e25 : ((o.1.toNat : Int) == 25) = decide (o.1.toNat = 25) := by rw [Bool.eq_iff_iff]; simp; omega
  by_cases h0 : k = 0
  · have E := hide (ga_no (readA_none (hk.trans h0)))
    have H0 := hide (gh_new w o (freshA 0))
    have n3 : ¬ o.1.toNat = 3 := fun e => by rw [e] at hk; subst h0; cases hk
    have n4 : ¬ o.1.toNat = 4 := fun e => by rw [e] at hk; subst h0; cases hk
    have n25 : ¬ o.1.toNat = 25 := fun e => by rw [e] at hk; subst h0; cases hk
    rw [decide_eq_false n3] at e3
    rw [decide_eq_false n4] at e4
    rw [decide_eq_false n25] at e25
    clear n3 n4 n25 hk h0 hs hs2
    go_enter Try.func24, Try.ntmps24
    go_wp2_with (refine wpList_store_bx rfl (.tmp 2) (.tmp 19) rfl (w.heap.size + 1) _ _ H0.out.res rfl rfl infoIA rfl rfl ?_; intro w9 G9 F9)
    have D9 := hide (H0.out.below.trans (F9.below H0.out.below.size (fun k e => by omega)))
    have EE := hide E.out.1
    have EO := hide E.out.2
    have g0 := G9.cell 0
    have g1 := G9.cell 1
    have g2 := G9.cell 2
    have g3 := G9.cell 3
    have g4 := G9.cell 4
    have g5 := G9.cell 5
    simp at g0 g1 g2 g3 g4 g5
    clear E H0 F9 G9
    refine bodyPost_ret (v := .tuple #[.agg zeroA, .int .i64 130]) (by simp [results, Try.results24, go_sem, g0, g1, g2, g3, g4, g5]) rfl ⟨.slice none 0 0, ?_, ?_, D9.out⟩
    · rw [EE.out, EO.out]; rfl
    · rw [EO.out]; exact ownI_nil _ _
  · have ks := kindK_inv hk h0
    have H0 := hide (gh_new w o (freshA k))
    have CU := hide (fun W => cut_ref o.2 hs (show I64 0 from ⟨by omega, by omega⟩) (show I64 (sizeA k : Nat) from ⟨by omega, by unfold sizeA; split <;> omega⟩) W)
    have HS := hide hs
    have HK := hide hk
    clear hk hs
    go_enter Try.func24, Try.ntmps24
    go_upto_block 0 with fail
    go_cut [5, 6] (fun s5 s6 wx => s5 = .int .i64 (sizeA k : Nat) ∧ s6 = .int .u16 ((codeW k).toNat : Int) ∧ wx = threeB w o (freshA k))
    case first =>
      rcases ks with ⟨rfl, hc⟩ | ⟨rfl, hc⟩ | ⟨rfl, hc⟩
      · rw [show decide (o.1.toNat = 3) = true by rw [hc]; rfl] at e3
        clear hc e4 e25 H0
        go_wp2
        go_meet
        exact ⟨rfl, rfl, rfl⟩
      · rw [show decide (o.1.toNat = 3) = false by rw [hc]; rfl] at e3
        rw [show decide (o.1.toNat = 4) = true by rw [hc]; rfl] at e4
        clear hc e25 H0
        go_wp2
        go_meet
        exact ⟨rfl, rfl, rfl⟩
      · rw [show decide (o.1.toNat = 3) = false by rw [hc]; rfl] at e3
        rw [show decide (o.1.toNat = 4) = false by rw [hc]; rfl] at e4
        rw [show decide (o.1.toNat = 25) = true by rw [hc]; rfl] at e25
        clear hc H0
        go_wp2
        go_meet
        exact ⟨rfl, rfl, rfl⟩
    case rest =>
      obtain ⟨rfl, rfl, rfl⟩ := hcut
      clear e3 e4 e25
      by_cases h1 : o.2.size < sizeA k
      · have E := hide (ga_no (readA_short (o := o) (by rw [HK.out]; exact h0) (by rw [HK.out]; exact h1)))
        rw [show cutO o.2 0 (sizeA k : Nat) = false by unfold cutO; rw [decide_eq_false_iff_not]; omega] at CU
        generalize cutV o.2 0 (sizeA k : Nat) = cv at *
        generalize sizeA k = sz at *
        generalize (codeW k).toNat = cw at *
        clear h1 ks h0 HK HS
        go_wp2_with fail
        refine (CU.out _).mono ?_
        rintro e w1 ⟨rfl, rfl⟩
        go_wp2_with (refine wpList_store_bx rfl (.tmp 2) (.tmp 38) rfl (w.heap.size + 1) _ _ H0.out.res rfl rfl infoIA rfl rfl ?_; intro w9 G9 F9)
        have D9 := hide (H0.out.below.trans (F9.below H0.out.below.size (fun k e => by omega)))
        have EE := hide E.out.1
        have EO := hide E.out.2
        have g0 := G9.cell 0
        have g1 := G9.cell 1
        have g2 := G9.cell 2
        have g3 := G9.cell 3
        have g4 := G9.cell 4
        have g5 := G9.cell 5
        simp at g0 g1 g2 g3 g4 g5
        clear E H0 F9 G9
        refine bodyPost_ret (v := .tuple #[.agg zeroA, .int .i64 3]) (by simp [results, Try.results24, go_sem, g0, g1, g2, g3, g4, g5]) rfl ⟨.slice none 0 0, ?_, ?_, D9.out⟩
        · rw [EE.out, EO.out]; rfl
        · rw [EO.out]; exact ownI_nil _ _
      · obtain ⟨A, hA⟩ : ∃ A, mkA k (lb o.2) (-1, []) = A := ⟨_, rfl⟩
        obtain ⟨RP1, RP2⟩ := readA_parts HK.out h0 (by omega) hA
        have GN := hide RP1
        have GW := hide (fun l hl => (RP2 l hl).1)
        have GO := hide (fun l hl => (RP2 l hl).2)
        have hz : (bs ((lb o.2).take (sizeA k))).size = sizeA k := by rw [bs_len, List.length_take, lb_len]; omega
        obtain ⟨c1, _, c3⟩ := getV_off (s := o.2) (k := 0) (n := sizeA k) (by omega)
        rw [show cutO o.2 0 (sizeA k : Nat) = true from c1, show cutV o.2 0 (sizeA k : Nat) = bs ((lb o.2).take (sizeA k)) from c3] at CU
        have sc : (k = 3 ∧ sizeA k = 4) ∨ (¬ k = 3 ∧ sizeA k = 12) := by
          unfold sizeA
          by_cases e : k = 3
          · exact Or.inl ⟨e, if_pos e⟩
          · exact Or.inr ⟨e, if_neg e⟩
        have hdl : (bs ((lb o.2).take (sizeA k))).size ≤ maxLen := by rw [hz]; unfold maxLen; omega
        have WD := hide (fun (n : Nat) (hn : n + 4 ≤ sizeA k) W => (show Calls Try.prog 56 #[.string (bs ((lb o.2).take (sizeA k))), .int .i64 (n : Int)] W (Same (.int .u32 ((W4 o.2 n).toNat : Int)) W) by
          have := rword_any hdl (n := n) (by rw [hz]; omega) W
          rw [W4_head (by omega)] at this
          exact this))
        have PA := hide (fun W => rparse_any (s := De o.2 (sizeA k)) (by have := HS.out; rw [De_size]; omega) W)
        have LD : lb (De o.2 (sizeA k)) = (lb o.2).drop (sizeA k) := lb_bs _
        have PL := hide (fun l (h : parseK 0 ((lb o.2).drop (sizeA k)) = .ok l) => (show parE (De o.2 (sizeA k)) = 0 ∧ parL (De o.2 (sizeA k)) = l by unfold parE parL; rw [LD, h]; exact ⟨rfl, rfl⟩))
        have PN := hide (fun y (h : parseK 0 ((lb o.2).drop (sizeA k)) = .error y) => (show parE (De o.2 (sizeA k)) = y by unfold parE; rw [LD, h]))
        have DS := hide (drop_str o.2 (n := sizeA k) (by omega))
        unfold ParseP at PA
        have SZi : ((sizeA k : Nat) : Int) ≤ (o.2.size : Int) := by omega
        have W0 := hide (fun W => WD.out 0 (by omega) W)
        have W1 := hide (fun h W => WD.out 4 (by rcases sc with e | e; exact absurd e.1 h; omega) W)
        have W2 := hide (fun h W => WD.out 8 (by rcases sc with e | e; exact absurd e.1 h; omega) W)
        have hA := hide hA
        have Ak := hide (show A.kind = k by rw [← hA.out, mkA_kind])
        generalize bs ((lb o.2).take (sizeA k)) = hd at *
        generalize sizeA k = sz at *
        have CK := code13 k
        generalize hcw : (codeW k).toNat = cw at *
        have HCW := hide hcw
        clear RP1 RP2 hz c1 c3 hdl LD WD h1 HS hcw
        go_wp2_with fail
        refine (CU.out _).mono ?_
        rintro e w1 ⟨rfl, rfl⟩
        go_wp2_with fail
        refine (W0.out _).mono ?_
        rintro e w1 ⟨rfl, rfl⟩
        clear CU W0
        go_upto_if 43 with fail
        go_cut [] (fun wx => wx = threeB w o (cellsK A (-1) (.slice none 0 0)))
        case first =>
          rcases sc with ⟨h3, rfl⟩ | ⟨h3, rfl⟩
          · have E := hide (show threeB w o #[.int .i64 k, .int .u32 ((W4 o.2 0).toNat : Int), .int .u32 0, .int .u32 0, .slice none 0 0, .int .i64 (-1)] = threeB w o (cellsK A (-1) (.slice none 0 0)) by rw [← hA.out, h3]; rfl)
            clear h3 ks h0 HK hA Ak PA PL PN GN GW GO DS W1 W2
            go_wp2
            go_meet
            exact E.out
          · have E := hide (show threeB w o #[.int .i64 k, .int .u32 ((W4 o.2 0).toNat : Int), .int .u32 ((W4 o.2 4).toNat : Int), .int .u32 ((W4 o.2 8).toNat : Int), .slice none 0 0, .int .i64 (-1)] = threeB w o (cellsK A (-1) (.slice none 0 0)) by rw [← hA.out, cellsK_n h3])
            have V1 := hide (W1.out h3)
            have V2 := hide (W2.out h3)
            clear h3 ks h0 HK hA Ak PA PL PN GN GW GO DS W1 W2
            go_wp2_with fail
            refine (V1.out _).mono ?_
            rintro e w1 ⟨rfl, rfl⟩
            go_wp2_with fail
            refine (V2.out _).mono ?_
            rintro e w1 ⟨rfl, rfl⟩
            go_wp2
            go_meet
            exact E.out
        case rest =>
          obtain rfl := hcut
          have H1 := hide (gh_new w o (cellsK A (-1) (.slice none 0 0)))
          clear H0 W1 W2 sc hA h0 HK
          go_wp2_with fail
          rw [DS.out]
          refine (PA.out _).mono ?_
          rintro e w4 ⟨vl, rfl, OL, hb4⟩
          clear PA DS SZi
          cases hp : parseK 0 ((lb o.2).drop sz) with
          | error y =>
            have E := hide (GN.out y hp)
            have H4 := hide (GHw.step H1.out hb4)
            have ey : (y != 0) = true := by have := parse_err0 hp; simpa using (show ¬ y = 0 by omega)
            rw [PN.out y hp]
            clear GN GW GO PL PN hp OL hb4 H1
            go_wp2_with (refine wpList_store_bx rfl (.tmp 2) (.tmp 60) rfl (w.heap.size + 1) _ _ H4.out.res rfl rfl infoIA rfl rfl ?_; intro w9 G9 F9)
            have D9 := hide (H4.out.below.trans (F9.below H4.out.below.size (fun k e => by omega)))
            have EE := hide E.out.1
            have EO := hide E.out.2
            have g0 := G9.cell 0
            have g1 := G9.cell 1
            have g2 := G9.cell 2
            have g3 := G9.cell 3
            have g4 := G9.cell 4
            have g5 := G9.cell 5
            simp at g0 g1 g2 g3 g4 g5
            clear E H4 F9 G9
            refine bodyPost_ret (v := .tuple #[.agg zeroA, .int .i64 y]) (by simp [results, Try.results24, go_sem, g0, g1, g2, g3, g4, g5]) rfl ⟨.slice none 0 0, ?_, ?_, D9.out⟩
            · rw [EE.out, EO.out]; rfl
            · rw [EO.out]; exact ownI_nil _ _
          | ok l =>
            obtain ⟨p1, p2, p3⟩ := parse_ok hp
            have OKL := hide p2
            rw [(PL.out l hp).2] at OL
            rw [(PL.out l hp).1]
            have GW := hide (GW.out l hp)
            have GO := hide (GO.out l hp)
            have HJ := hide (GHw.loop H1.out OL hb4)
            clear GN PL PN hp p1 p2 OL hb4 H1
            obtain ⟨p, c, rfl⟩ := lstO_len (ownO_lst HJ.out.row)
            have hlc := (lstO_cap (ownO_lst HJ.out.row)).2.1
            go_wp2_with fail
            go_loopw [11] (fun vi wr => ∃ (j : Nat) (cd : Int) (vh : Value) (has : List In), j ≤ l.length ∧ vi = .int .i64 (j : Nat) ∧ has.length ≤ 8 ∧ -1 ≤ cd ∧ Hid (walkF k cd has (l.drop j) = walkF k (-1) [] l) ∧ Hid (GKw w (cellsK A cd vh) vh has (.slice p l.length c) l wr)) (fun vi _ => l.length - (intOf vi).toNat)
            case atStart => exact ⟨0, -1, .slice none 0 0, [], Nat.zero_le _, rfl, Nat.zero_le _, by omega, hide rfl, HJ⟩
            case round =>
              obtain ⟨j, cd, vh, has, hj, rfl, hh8, hcd, HT, HM⟩ := hrel
              clear HJ
              by_cases hlt : j < l.length
              · obtain ⟨x, hx⟩ := getO_some hlt
                obtain ⟨b, ob, rfl, _, x1, x2⟩ := lstO_at (ownO_lst HM.out.row) hx
                have kc : j ≤ c := by omega
                have DR := hide (drop_at1 hx)
                have SZ := OKL.out x (List.mem_of_getElem? hx)
                have HX := hide hx
                clear hx
                by_cases h13 : x.1.toNat = 13
                · have e13 : ((x.1.toNat : Int) == 13) = true := by simpa using (show (x.1.toNat : Int) = 13 by omega)
                  have enw : ((x.1.toNat : Int) != (cw : Int)) = true := by simpa using (show ¬ (x.1.toNat : Int) = (cw : Int) by omega)
                  have GS := hide (fun W => rgetStatus_any (s := x.2) (by unfold maxLen; omega) W)
                  by_cases h2 : x.2.size < 2
                  · have E := hide (GW.out 130 (by rw [← HT.out, DR.out, (walkF_13 h13).1 h2]))
                    rw [show getK x.2 = false by unfold getK; rw [decide_eq_false_iff_not]; omega] at GS
                    generalize getC x.2 = gc at *
                    clear h13 h2 HT DR SZ GW GO HX
                    go_wp2_with fail
                    refine (GS.out _).mono ?_
                    rintro e w' ⟨rfl, rfl⟩
                    go_wp2_with (refine wpList_store_bx rfl (.tmp 2) (.tmp 85) rfl (w.heap.size + 1) _ _ HM.out.res rfl rfl infoIA rfl rfl ?_; intro w9 G9 F9)
                    have D9 := hide (HM.out.below.trans (F9.below HM.out.below.size (fun k e => by omega)))
                    have EE := hide E.out.1
                    have EO := hide E.out.2
                    have g0 := G9.cell 0
                    have g1 := G9.cell 1
                    have g2 := G9.cell 2
                    have g3 := G9.cell 3
                    have g4 := G9.cell 4
                    have g5 := G9.cell 5
                    simp at g0 g1 g2 g3 g4 g5
                    clear E HM F9 G9
                    refine bodyPost_ret (v := .tuple #[.agg zeroA, .int .i64 130]) (by simp [results, Try.results24, go_sem, g0, g1, g2, g3, g4, g5]) rfl ⟨.slice none 0 0, ?_, ?_, D9.out⟩
                    · rw [EE.out, EO.out]; rfl
                    · rw [EO.out]; exact ownI_nil _ _
                  · have HT2 := hide (show walkF k (if cd = -1 then (beV ((lb x.2).take 2) : Nat) else cd) has (l.drop (j + 1)) = walkF k (-1) [] l by rw [← HT.out, DR.out, (walkF_13 h13).2 h2])
                    rw [show getK x.2 = true by unfold getK; rw [decide_eq_true_eq]; omega, show getC x.2 = ((beV ((lb x.2).take 2) : Nat) : Int) by unfold getC; rw [if_neg h2]; rfl] at GS
                    have gn : -1 ≤ ((beV ((lb x.2).take 2) : Nat) : Int) := by omega
                    generalize ((beV ((lb x.2).take 2) : Nat) : Int) = gc at *
                    have c5 : wr.cell? ⟨w.heap.size + 1 + 1, 5, none⟩ = some (.int .i64 cd) := HM.out.box.cell 5
                    have f5 : wr.frozen? ⟨w.heap.size + 1 + 1, 5, none⟩ = false := HM.out.box.free 5
                    clear h13 h2 HT DR SZ GW GO
                    by_cases h0 : cd = -1
                    · rw [if_pos h0] at HT2
                      have M2 := hide (show GKw w (cellsK A gc vh) vh has (.slice (some ⟨b, ob, none⟩) l.length c) l (wr.setCell ⟨w.heap.size + 1 + 1, 5, none⟩ (.int .i64 gc)) from HM.out.set 5 _)
                      have d0 : cd < 0 := by omega
                      clear HM h0
                      go_wp2_with fail
                      refine (GS.out _).mono ?_
                      rintro e w' ⟨rfl, rfl⟩
                      go_upto_region 33 with fail
                      generalize wr.setCell ⟨w.heap.size + 1 + 1, 5, none⟩ (.int .i64 gc) = w5 at *
                      clear x1 x2 c5 f5 GS
                      obtain ⟨b2, o2, eb, _, x1, x2⟩ := lstO_at (ownO_lst M2.out.row) HX.out
                      cases eb
                      go_wp2
                      go_roundw
                      case rel => exact ⟨j + 1, gc, vh, has, hlt, by go_num, hh8, gn, HT2, M2⟩
                      case measure => simp [intOf]; omega
                    · rw [if_neg h0] at HT2
                      have d0 : 0 ≤ cd := by omega
                      clear h0
                      go_wp2_with fail
                      refine (GS.out _).mono ?_
                      rintro e w' ⟨rfl, rfl⟩
                      go_wp2
                      go_roundw
                      case rel => exact ⟨j + 1, cd, vh, has, hlt, by go_num, hh8, hcd, HT2, HM⟩
                      case measure => simp [intOf]; omega
                · have e13 : ((x.1.toNat : Int) == 13) = false := by simpa using (show ¬ (x.1.toNat : Int) = 13 by omega)
                  by_cases hin : x.1.toNat = cw
                  · have enw : ((x.1.toNat : Int) != (cw : Int)) = false := by simpa using (show (x.1.toNat : Int) = (cw : Int) by omega)
                    obtain ⟨ph, ch, rfl⟩ := lstI_len (ownI_lst HM.out.hs)
                    have c4 : wr.cell? ⟨w.heap.size + 1 + 1, 4, none⟩ = some (.slice ph has.length ch) := HM.out.box.cell 4
                    obtain ⟨WI1, WI2⟩ := walkF_in (k := k) (x := x) (r := l.drop (j + 1)) (c := cd) (has := has) (hin.trans HCW.out.symm)
                    rw [← DR.out, HT.out] at WI1 WI2
                    by_cases h8 : 8 ≤ has.length
                    · have E := hide (GW.out 6 (WI1 h8))
                      have n8 : (8 : Int) ≤ (has.length : Int) := by omega
                      clear h13 hin HT DR SZ GW GO HX WI1 WI2 h8
                      go_wp2_with (refine wpList_store_bx rfl (.tmp 2) (.tmp 102) rfl (w.heap.size + 1) _ _ HM.out.res rfl rfl infoIA rfl rfl ?_; intro w9 G9 F9)
                      have D9 := hide (HM.out.below.trans (F9.below HM.out.below.size (fun k e => by omega)))
                      have EE := hide E.out.1
                      have EO := hide E.out.2
                      have g0 := G9.cell 0
                      have g1 := G9.cell 1
                      have g2 := G9.cell 2
                      have g3 := G9.cell 3
                      have g4 := G9.cell 4
                      have g5 := G9.cell 5
                      simp at g0 g1 g2 g3 g4 g5
                      clear E HM F9 G9
                      refine bodyPost_ret (v := .tuple #[.agg zeroA, .int .i64 6]) (by simp [results, Try.results24, go_sem, g0, g1, g2, g3, g4, g5]) rfl ⟨.slice none 0 0, ?_, ?_, D9.out⟩
                      · rw [EE.out, EO.out]; rfl
                      · rw [EO.out]; exact ownI_nil _ _
                    · have n8 : ¬ (8 : Int) ≤ (has.length : Int) := by omega
                      have WI := hide (WI2 h8)
                      have RI := hide (fun W => rinner_any k (s := x.2) (by unfold maxLen; omega) W)
                      have RE := hide (fun y (h : readI k (lb x.2) = .error y) => (rin_no h).1)
                      have RO := hide (fun i (h : readI k (lb x.2) = .ok i) => rin_ok h)
                      unfold RRI at RI
                      generalize rinV k x.2 = iv at *
                      generalize rinE k x.2 = ie at *
                      clear h13 hin HT DR SZ WI1 WI2
                      go_wp2_with fail
                      clear x1 x2 c4
                      refine wp_region_relU (GKw w (cellsK A cd (.slice ph has.length ch)) (.slice ph has.length ch) has (.slice (some ⟨b, ob, none⟩) l.length c) l) 12 (XstN (w.heap.size + 3) (.slice ph has.length ch)) [some 104, some 105, some 106, some 107, some 108, some 109, some 110, some 111, some 103, some 112, some 113, some 14, none, some 15] [fun vs _ => vs 0 = .pointer (some ⟨w.heap.size + 1 + 1, 0, none⟩), fun vs _ => vs 1 = .int .i64 k, fun vs _ => vs 2 = .slice (some ⟨b, ob, none⟩) l.length c, fun vs _ => vs 3 = .int .i64 (j : Nat), fun vs _ => vs 4 = .pointer (some ⟨b, ob + j * 2, none⟩), fun vs _ => vs 5 = .pointer (some ⟨b, ob + j * 2 + 1, none⟩), fun vs _ => vs 6 = .string x.2, fun vs _ => vs 7 = .tuple #[IV iv, .int .i64 ie], fun vs _ => vs 8 = .tuple #[IV iv, .int .i64 ie], fun vs _ => vs 9 = IV iv, fun vs _ => vs 10 = .int .i64 ie, fun vs W => BoxN (w.heap.size + 3) (.slice ph has.length ch) (vs 11) W, fun vs W => ∃ g, vs 11 = .pointer (some ⟨g, 0, none⟩) ∧ Bx g 74 (cellsV iv).toArray W, fun vs _ => vs 13 = .int .i64 ie] 125 (by kernel_rfl) (by kernel_rfl) rfl rfl (HM.out.step (Below.refl _ _).drew) ?_ ?_
                      · refine ⟨⟨fun _ _ _ _ _ _ e _ h _ => e.trans h, fun a' us W K hD hC hd hf hK => ?_⟩, ⟨fun _ _ _ _ _ _ e _ h _ => e.trans h, fun a' us W K hD hC hd hf hK => ?_⟩, ⟨fun _ _ _ _ _ _ e _ h _ => e.trans h, fun a' us W K hD hC hd hf hK => ?_⟩, ⟨fun _ _ _ _ _ _ e _ h _ => e.trans h, fun a' us W K hD hC hd hf hK => ?_⟩, ⟨fun _ _ _ _ _ _ e _ h _ => e.trans h, fun a' us W K hD hC hd hf hK => ?_⟩, ⟨fun _ _ _ _ _ _ e _ h _ => e.trans h, fun a' us W K hD hC hd hf hK => ?_⟩, ⟨fun _ _ _ _ _ _ e _ h _ => e.trans h, fun a' us W K hD hC hd hf hK => ?_⟩, ⟨fun _ _ _ _ _ _ e _ h _ => e.trans h, fun a' us W K hD hC hd hf hK => ?_⟩, ⟨fun _ _ _ _ _ _ e _ h _ => e.trans h, fun a' us W K hD hC hd hf hK => ?_⟩, ⟨fun _ _ _ _ _ _ e _ h _ => e.trans h, fun a' us W K hD hC hd hf hK => ?_⟩, ⟨fun _ _ _ _ _ _ e _ h _ => e.trans h, fun a' us W K hD hC hd hf hK => ?_⟩, ⟨fun _ _ _ _ _ _ e _ h hs => BoxN.st e h hs, fun a' us W K hD hC hd hf hK => ?_⟩, ⟨fun _ _ _ _ _ hk _ hd ⟨g, h1, h3⟩ hs => ⟨g, (hd 11 (by kernel_rfl)).trans h1, h3.step (hs.ne hk)⟩, fun a' us W K hD hC hd hf hK => ?_⟩, ⟨fun _ _ _ _ _ _ e _ h _ => e.trans h, fun a' us W K hD hC hd hf hK => ?_⟩, trivial⟩
                        · refine op_plain rfl ?_
                          have f4 : a'.tmps[4]?.getD undef = .pointer (some ⟨w.heap.size + 1 + 1, 0, none⟩) := (hf.out 4 (by kernel_rfl)).trans (by simp)
                          go_simp
                          exact hK.out _ _ hC (Below.refl _ _) (updF_at _ _ _)
                        · refine op_plain rfl ?_
                          have d104 : a'.tmps[104]?.getD undef = .pointer (some ⟨w.heap.size + 1 + 1, 0, none⟩) := ((hd.out 0 (by kernel_rfl)).2 104 rfl).trans (hd.out 0 (by kernel_rfl)).1
                          have y0 : W.cell? ⟨w.heap.size + 1 + 1, 0, none⟩ = some (.int .i64 A.kind) := hC.box.cell 0
                          rw [Ak.out] at y0
                          obtain ⟨b2, o2, eb, _, u1, u2⟩ := lstO_at (ownO_lst hC.row) HX.out
                          cases eb
                          go_simp
                          exact hK.out _ _ hC (Below.refl _ _) (updF_at _ _ _)
                        · refine op_plain rfl ?_
                          have f9 : a'.tmps[9]?.getD undef = .slice (some ⟨b, ob, none⟩) l.length c := (hf.out 9 (by kernel_rfl)).trans (by simp)
                          go_simp
                          exact hK.out _ _ hC (Below.refl _ _) (updF_at _ _ _)
                        · refine op_plain rfl ?_
                          have f11 : a'.tmps[11]?.getD undef = .int .i64 (j : Nat) := (hf.out 11 (by kernel_rfl)).trans (by simp)
                          go_simp
                          exact hK.out _ _ hC (Below.refl _ _) (updF_at _ _ _)
                        · refine op_plain rfl ?_
                          have d106 : a'.tmps[106]?.getD undef = .slice (some ⟨b, ob, none⟩) l.length c := ((hd.out 2 (by kernel_rfl)).2 106 rfl).trans (hd.out 2 (by kernel_rfl)).1
                          have d107 : a'.tmps[107]?.getD undef = .int .i64 (j : Nat) := ((hd.out 3 (by kernel_rfl)).2 107 rfl).trans (hd.out 3 (by kernel_rfl)).1
                          go_simp
                          exact hK.out _ _ hC (Below.refl _ _) (updF_at _ _ _)
                        · refine op_plain rfl ?_
                          have d108 : a'.tmps[108]?.getD undef = .pointer (some ⟨b, ob + j * 2, none⟩) := ((hd.out 4 (by kernel_rfl)).2 108 rfl).trans (hd.out 4 (by kernel_rfl)).1
                          go_simp
                          exact hK.out _ _ hC (Below.refl _ _) (updF_at _ _ _)
                        · refine op_plain rfl ?_
                          have d109 : a'.tmps[109]?.getD undef = .pointer (some ⟨b, ob + j * 2 + 1, none⟩) := ((hd.out 5 (by kernel_rfl)).2 109 rfl).trans (hd.out 5 (by kernel_rfl)).1
                          have y0 : W.cell? ⟨w.heap.size + 1 + 1, 0, none⟩ = some (.int .i64 A.kind) := hC.box.cell 0
                          rw [Ak.out] at y0
                          obtain ⟨b2, o2, eb, _, u1, u2⟩ := lstO_at (ownO_lst hC.row) HX.out
                          cases eb
                          go_simp
                          exact hK.out _ _ hC (Below.refl _ _) (updF_at _ _ _)
                        · refine op_plain rfl ?_
                          have d105 : a'.tmps[105]?.getD undef = .int .i64 k := ((hd.out 1 (by kernel_rfl)).2 105 rfl).trans (hd.out 1 (by kernel_rfl)).1
                          have d110 : a'.tmps[110]?.getD undef = .string x.2 := ((hd.out 6 (by kernel_rfl)).2 110 rfl).trans (hd.out 6 (by kernel_rfl)).1
                          go_simp
                          go_at_call 57
                          refine (RI.out W).mono ?_
                          rintro e w8 ⟨rfl, hb8⟩
                          exact hK.out _ _ (hC.step hb8) hb8 (updF_at _ _ _)
                        · refine op_plain rfl ?_
                          have d111 : a'.tmps[111]?.getD undef = .tuple #[IV iv, .int .i64 ie] := ((hd.out 7 (by kernel_rfl)).2 111 rfl).trans (hd.out 7 (by kernel_rfl)).1
                          go_simp
                          exact hK.out _ _ hC (Below.refl _ _) (updF_at _ _ _)
                        · refine op_plain rfl ?_
                          have d103 : a'.tmps[103]?.getD undef = .tuple #[IV iv, .int .i64 ie] := ((hd.out 8 (by kernel_rfl)).2 103 rfl).trans (hd.out 8 (by kernel_rfl)).1
                          go_simp
                          exact hK.out _ _ hC (Below.refl _ _) (updF_at _ _ _)
                        · refine op_plain rfl ?_
                          have d103 : a'.tmps[103]?.getD undef = .tuple #[IV iv, .int .i64 ie] := ((hd.out 8 (by kernel_rfl)).2 103 rfl).trans (hd.out 8 (by kernel_rfl)).1
                          go_simp
                          exact hK.out _ _ hC (Below.refl _ _) (updF_at _ _ _)
                        · refine op_plain rfl ?_
                          go_simp
                          exact hK.out _ _ (hC.step (below_alloc _ _)) (below_alloc _ _) ⟨W.heap.size, updF_at _ _ _, hC.room, fun e => Nat.lt_irrefl _ (World.ownsRow.lt hC.hs _ e).2, zeroI, rfl, bx_new W _ _⟩
                        · refine op_plain rfl ?_
                          have d14 := (hd.out 11 (by kernel_rfl)).2 14 rfl
                          have r14 := (hd.out 11 (by kernel_rfl)).1
                          change (fun vs W => BoxN (w.heap.size + 3) (.slice ph has.length ch) (vs 11) W) us W at r14
                          have d112 : a'.tmps[112]?.getD undef = IV iv := ((hd.out 9 (by kernel_rfl)).2 112 rfl).trans (hd.out 9 (by kernel_rfl)).1
                          obtain ⟨g, e11, zg, ng, cs, hz, X11⟩ := r14
                          rw [e11] at d14
                          refine wp_store_row 74 (.tmp 14) (.tmp 112) rfl g (cellsV iv).toArray (by simpa [Act.eval] using d14) (by simpa [Act.eval] using d112) _ cs X11 infoI hz (by rw [← Array.all_toList]; rfl) ?_
                          have G9 : Bx g 74 (cellsV iv).toArray (W.setRow g (cellsV iv).toArray) := setRow_heap W g _ _ _ _ X11
                          have F9 := fr_row W g (cellsV iv).toArray
                          exact hK.out _ _ (hC.st zg ng X11 F9) ⟨g, cs, zg, ng, X11, F9, (cellsV iv).toArray, rfl, G9⟩ ⟨g, (updF_ne (by decide)).trans e11, G9⟩
                        · refine op_plain rfl ?_
                          have d113 : a'.tmps[113]?.getD undef = .int .i64 ie := ((hd.out 10 (by kernel_rfl)).2 113 rfl).trans (hd.out 10 (by kernel_rfl)).1
                          go_simp
                          exact hK.out _ _ hC (Below.refl _ _) (updF_at _ _ _)
                      · intro vs W6 hC hR
                        have q0 : vs 0 = .pointer (some ⟨w.heap.size + 1 + 1, 0, none⟩) := hR.out 0 (by decide)
                        have q1 : vs 1 = .int .i64 k := hR.out 1 (by decide)
                        have q2 : vs 2 = .slice (some ⟨b, ob, none⟩) l.length c := hR.out 2 (by decide)
                        have q3 : vs 3 = .int .i64 (j : Nat) := hR.out 3 (by decide)
                        have q4 : vs 4 = .pointer (some ⟨b, ob + j * 2, none⟩) := hR.out 4 (by decide)
                        have q5 : vs 5 = .pointer (some ⟨b, ob + j * 2 + 1, none⟩) := hR.out 5 (by decide)
                        have q6 : vs 6 = .string x.2 := hR.out 6 (by decide)
                        have q7 : vs 7 = .tuple #[IV iv, .int .i64 ie] := hR.out 7 (by decide)
                        have q8 : vs 8 = .tuple #[IV iv, .int .i64 ie] := hR.out 8 (by decide)
                        have q9 : vs 9 = IV iv := hR.out 9 (by decide)
                        have q10 : vs 10 = .int .i64 ie := hR.out 10 (by decide)
                        have r11 := hR.out 11 (by decide)
                        change (fun vs W => BoxN (w.heap.size + 3) (.slice ph has.length ch) (vs 11) W) vs W6 at r11
                        have r12 := hR.out 12 (by decide)
                        change (fun vs W => ∃ g, vs 11 = .pointer (some ⟨g, 0, none⟩) ∧ Bx g 74 (cellsV iv).toArray W) vs W6 at r12
                        have q13 : vs 13 = .int .i64 ie := hR.out 13 (by decide)
                        clear hR
                        simp only [fillF, Act.put, List.setIfInBounds_toArray, List.set_cons_zero, List.set_cons_succ, Nat.reduceAdd, q0, q1, q2, q3, q4, q5, q6, q7, q8, q9, q10, q13]
                        clear q0 q1 q2 q3 q4 q5 q6 q7 q8 q9 q10 q13
                        generalize vs 11 = q11 at *
                        generalize vs 12 = q12 at *
                        obtain ⟨g, e11, X9⟩ := r12
                        subst e11
                        have HM5 := hide hC
                        clear hC HM r11
                        cases hr : readI k (lb x.2) with
                        | error y =>
                          have E := hide (GW.out y (WI.out.1 y hr))
                          have ey : (y != 0) = true := by have := readI_err hr; simpa using (show ¬ y = 0 by omega)
                          have ei := RE.out y hr
                          subst ei
                          clear RI RE RO WI GW GO HX hr
                          go_wp2_with (refine wpList_store_bx rfl (.tmp 2) (.tmp 116) rfl (w.heap.size + 1) _ _ HM5.out.res rfl rfl infoIA rfl rfl ?_; intro w9 G9 F9)
                          have D9 := hide (HM5.out.below.trans (F9.below HM5.out.below.size (fun k e => by omega)))
                          have EE := hide E.out.1
                          have EO := hide E.out.2
                          have g0 := G9.cell 0
                          have g1 := G9.cell 1
                          have g2 := G9.cell 2
                          have g3 := G9.cell 3
                          have g4 := G9.cell 4
                          have g5 := G9.cell 5
                          simp at g0 g1 g2 g3 g4 g5
                          clear E HM5 F9 G9
                          refine bodyPost_ret (v := .tuple #[.agg zeroA, .int .i64 ie]) (by simp [results, Try.results24, go_sem, g0, g1, g2, g3, g4, g5]) rfl ⟨.slice none 0 0, ?_, ?_, D9.out⟩
                          · rw [EE.out, EO.out]; rfl
                          · rw [EO.out]; exact ownI_nil _ _
                        | ok i =>
                          have HT2 := hide (WI.out.2 i hr).symm
                          obtain ⟨ei, ev⟩ := RO.out i hr
                          subst ei ev
                          clear RI RE RO WI GW GO HX hr
                          have c4 : W6.cell? ⟨w.heap.size + 1 + 1, 4, none⟩ = some (.slice ph has.length ch) := HM5.out.box.cell 4
                          obtain ⟨z0, z1, z2, z3, z4, z5⟩ := inb_cells X9
                          have H6 := hide (HM5.out.step (below_alloc W6 (.cells (cellsV iv).toArray 74)))
                          clear X9 HM5
                          go_wp2_with (at_builtin; refine wpList_append_oneI rfl (.tmp 119) (.tmp 121) rfl (w.heap.size + 3) _ has rfl H6.out.hs W6.heap.size 1 iv rfl own_six (by omega) H6.out.room ?_; intro gn capn w7 q1 q2 q3 q4; have HN := hide (H6.out.add q1 q3); have c4n : w7.cell? ⟨w.heap.size + 1 + 1, 4, none⟩ = some (.slice ph has.length ch) := HN.out.box.cell 4; have f4n : w7.frozen? ⟨w.heap.size + 1 + 1, 4, none⟩ = false := HN.out.box.free 4)
                          have HN2 := hide (HN.out.set 4 (.slice (some ⟨gn, 0, none⟩) (has.length + 1) capn))
                          clear H6 q1 q2 q3 q4 HN c4n f4n c4 z0 z1 z2 z3 z4 z5
                          go_wp2
                          go_roundw
                          case rel => exact ⟨j + 1, cd, _, has ++ [iv], hlt, by go_num, by rw [List.length_append]; exact (by omega : has.length + 1 ≤ 8), hcd, HT2, HN2⟩
                          case measure => simp [intOf]; omega
                  · have enw : ((x.1.toNat : Int) != (cw : Int)) = true := by simpa using (show ¬ (x.1.toNat : Int) = (cw : Int) by omega)
                    have HT2 := hide (show walkF k cd has (l.drop (j + 1)) = walkF k (-1) [] l by rw [← HT.out, DR.out, walkF_no h13 (fun e => hin (e.trans HCW.out))])
                    clear h13 hin HT DR SZ GW GO HX
                    go_wp2
                    go_roundw
                    case rel => exact ⟨j + 1, cd, vh, has, hlt, by go_num, hh8, hcd, HT2, HM⟩
                    case measure => simp [intOf]; omega
              · have : j = l.length := by omega
                subst this
                have E := hide (GO.out (cd, has) (by rw [← HT.out, List.drop_length]; rfl))
                obtain ⟨ph, ch, rfl⟩ := lstI_len (ownI_lst HM.out.hs)
                clear HT GW GO hlt
                go_wp2_with (first | (refine wpList_load_bx rfl (.tmp 4) rfl (w.heap.size + 2) _ HM.out.box rfl _ Try.underlying37 rfl infoIA ?_) | (refine wpList_store_bx rfl (.tmp 2) (.tmp 124) rfl (w.heap.size + 1) _ _ HM.out.res rfl rfl infoIA rfl rfl ?_; intro w9 G9 F9))
                have D9 := hide (HM.out.below.trans (F9.below HM.out.below.size (fun k e => by omega)))
                have O9 := hide (own_fr (ownI_base HM.out.hs (show w.heap.size ≤ w.heap.size + 3 by omega)) F9 (fun g e1 e2 => by have := own_ge HM.out.hs g e1.symm; omega))
                have EE := hide E.out.1
                have EO := hide E.out.2
                obtain ⟨g0, g1, g2, g3, g4, g5⟩ := ia_cells (a := { A with code := cd, has := has }) (v := .slice ph has.length ch) G9
                clear E HM F9 G9
                refine bodyPost_ret (v := .tuple #[AV { A with code := cd, has := has } (.slice ph has.length ch), .int .i64 0]) (by simp [results, Try.results24, go_sem, g0, g1, g2, g3, g4, g5]) rfl ⟨.slice ph has.length ch, ?_, ?_, D9.out⟩
                · rw [EE.out, EO.out]
                · rw [EO.out]; exact O9.out
end Go.Proofs.Ytcpldojgmboipaa
