/-
  Bytes that are appended one by one to a converted string's; the contract of the document's own text of MD5. Condition: a string takes at most 2^47 - 2800 bytes.
-/
import Derived.Test.YtiickcdkibcdpaaDoorDigB
import Derived.Laws.IdiomCopy
import Derived.ArgAppend
namespace Go.Proofs.YtiickcdkibcdpaaDoor
open Go.RowKit Go.Joins

/-- a row of bytes with its spare room -/
def RB (base g n cap : Nat) (l : List UInt8) (W : World) : Prop := base ≤ g ∧ g < W.heap.size ∧ n ≤ cap ∧ l.length = n ∧
  (∀ j u, (l.map byteV)[j]? = some u → W.cell? ⟨g, 0 + j, none⟩ = some u) ∧ (∀ j, n ≤ j → j < cap → (W.cell? ⟨g, j, none⟩).isSome = true ∧ W.frozen? ⟨g, j, none⟩ = false)
theorem RB.step {base g n cap : Nat} {l : List UInt8} {W w2 : World} (h : RB base g n cap l W) (hb : Below W.heap.size W w2) : RB base g n cap l w2 := by
  obtain ⟨h1, h2, h3, h4, h5, h6⟩ := h
  refine ⟨h1, Nat.lt_of_lt_of_le h2 hb.size, h3, h4, fun j u hj => keep_cell hb (h5 j u hj), fun j hj hc => ?_⟩
  obtain ⟨k1, k2⟩ := h6 j hj hc
  exact ⟨by rw [hb.cell (p := ⟨g, j, none⟩) h2]; exact k1, keep_free hb h2 k2⟩
theorem RB.push {base g n cap : Nat} {l : List UInt8} {W : World} (h : RB base g n cap l W) (hr : n + 1 ≤ cap) (b : UInt8) : RB base g (n + 1) cap (l ++ [b]) (W.setCells g n [byteV b]) := by
  obtain ⟨h1, h2, h3, h4, h5, h6⟩ := h
  have out : ∀ j, j ≠ n → (W.setCells g n [byteV b]).cell? ⟨g, j, none⟩ = W.cell? ⟨g, j, none⟩ := fun j hj =>
    World.cell?_setCells_out g [byteV b] n W ⟨g, j, none⟩ (fun _ _ => by simp; omega)
  refine ⟨h1, ?_, hr, by rw [List.length_append, h4]; rfl, ?_, ?_⟩
  · show g < (W.setCell ⟨g, n, none⟩ (byteV b)).heap.size
    simpa using h2
  · intro j u hj
    rw [List.map_append] at hj
    by_cases e : j < n
    · rw [Nat.zero_add, out j (by omega)]
      rw [List.getElem?_append_left (by rw [List.length_map, h4]; exact e)] at hj
      have := h5 j u hj
      rwa [Nat.zero_add] at this
    · rw [List.getElem?_append_right (by rw [List.length_map, h4]; omega), List.length_map, h4] at hj
      have : j = n := by
        rcases Nat.lt_or_ge n j with k | k
        · rw [List.getElem?_eq_none (by simp; omega)] at hj; cases hj
        · omega
      subst this
      rw [Nat.sub_self] at hj
      simp at hj
      subst hj
      have := World.cell?_setCells_in g [byteV b] j W (fun i hi => by
        have : i = 0 := by simpa using hi
        subst this
        exact (h6 j (Nat.le_refl _) (by omega)).1) 0 (by simp)
      simpa using this
  · intro j hj hc
    obtain ⟨k1, k2⟩ := h6 j (by omega) hc
    exact ⟨by rw [out j (by omega)]; exact k1, by rw [World.frozen?_setCells]; exact k2⟩
theorem rb_owned {w : World} {base : Nat} {v : Value} {n : Nat} {l : List UInt8} (h : w.ownsRow base 5 1 v (n + 1) (l.map byteV)) : ∃ g cap, v = .slice (some ⟨g, 0, none⟩) (n + 1) cap ∧ RB base g (n + 1) cap l w := by
  have hl := h.1
  rcases h.2 with ⟨_, h0⟩ | ⟨g, cap, cur, rfl, hb, hg, hc, _, hs, ht⟩
  · omega
  · refine ⟨g, cap, rfl, hb, ?_, hc, by simpa using hl, ?_, ?_⟩
    · rcases Nat.lt_or_ge g w.heap.size with h' | h'
      · exact h'
      · rw [Array.getElem?_eq_none h'] at hg; cases hg
    · intro j u hj
      have hj2 : j < (n + 1) * 1 := by
        have := (List.getElem?_eq_some_iff.1 hj).1
        rw [hl] at this; exact this
      rw [Nat.zero_add, h.cellAt j hj2]
      exact hj
    · intro j _ hj
      refine ⟨?_, h.frozenAt j⟩
      rw [cell_of_row w g j cur _ (0, 0) hg, Array.getElem?_eq_getElem (by omega)]
      rfl
theorem conv_rbytes (w : World) (s : ByteArray) : ∃ cap w2, (convert 9 31 (.string s)).run Tryd.prog w = .ok (.slice (some ⟨w.heap.size, 0, none⟩) s.size cap) w2 ∧
    RB w.heap.size w.heap.size s.size cap s.data.toList w2 ∧ Below w.heap.size w w2 := by
  refine ⟨_, _, run_bytes_of_string (P := Tryd.prog) w 9 31 5 s Tryd.underlying9 Tryd.underlying31 Tryd.underlying5, ?_, (Below.refl _ _).drew.alloc (Nat.le_refl _) _⟩
  have hge : s.size ≤ grownCap w s.size 0 5 := grownCap_ge w s.size 0 5
  generalize grownCap w s.size 0 5 = cap at *
  have hsz : (bytesRow s cap).size = cap := by
    unfold bytesRow
    rw [Array.size_append, Array.size_map, Array.size_replicate]
    show s.size + (cap - s.size) = cap
    omega
  have hn := heap_alloc_new w.drew (.cells (bytesRow s cap) 5 ((bytesRow s cap).size, (bytesRow s cap).size + 1))
  have hd : w.drew.heap.size = w.heap.size := rfl
  rw [hd] at hn
  refine ⟨Nat.le_refl _, by simp, hge, rfl, ?_, ?_⟩
  · intro j u hj
    rw [Nat.zero_add, cell_of_row _ _ j _ _ _ hn]
    have hj2 : j < s.data.toList.length := by
      have := (List.getElem?_eq_some_iff.1 hj).1
      simpa using this
    unfold bytesRow
    rw [Array.getElem?_append_left (by rw [Array.size_map]; simpa using hj2), Array.getElem?_map]
    rw [List.getElem?_map, Array.getElem?_toList] at hj
    exact hj
  · intro j h1 h2
    refine ⟨?_, ?_⟩
    · rw [cell_of_row _ _ j _ _ _ hn, Array.getElem?_eq_getElem (by omega)]
      rfl
    · rw [frozen_row hn j, hsz]
      simp
      omega
theorem conv_rb {w : World} {base g n cap : Nat} {l : List UInt8} (h : RB base g n cap l w) :
    (convert 31 9 (.slice (some ⟨g, 0, none⟩) n cap)).run Tryd.prog w = .ok (St l) w := by
  obtain ⟨_, _, _, rfl, h5, _⟩ := h
  refine run_convert_bytes_back (P := Tryd.prog) w 31 9 5 ⟨g, 0, none⟩ cap l Tryd.underlying31 Tryd.underlying5 Tryd.underlying9 (fun j hj => ?_)
  have := h5 j (byteV l[j]) (by rw [List.getElem?_map, List.getElem?_eq_getElem hj]; rfl)
  have ha : (⟨g, 0, none⟩ : Go.Addr).add j = ⟨g, 0 + j, none⟩ := by cases j <;> simp [Addr.add]
  rw [ha, this]
  rfl
theorem RB.other {base g n cap : Nat} {l : List UInt8} {W w2 : World} (h : RB base g n cap l W) {r : Option Nat} (hb : W.grownBy w2 r) (hn : some g ≠ r) : RB base g n cap l w2 := by
  obtain ⟨h1, h2, h3, h4, h5, h6⟩ := h
  have e := hb.block g h2 hn
  refine ⟨h1, Nat.lt_of_lt_of_le h2 hb.size, h3, h4, fun j u hj => ?_, fun j hj hc => ?_⟩
  · rw [World.cell?_of_block (a := ⟨g, 0 + j, none⟩) e]; exact h5 j u hj
  · obtain ⟨k1, k2⟩ := h6 j hj hc
    exact ⟨by rw [World.cell?_of_block (a := ⟨g, j, none⟩) e]; exact k1, by rw [World.frozen?_of_block (a := ⟨g, j, none⟩) e]; exact k2⟩
theorem rb_empty (W : World) (t : TypeId) : RB W.heap.size W.heap.size 0 0 [] (W.alloc (.cells #[] t)) :=
  ⟨Nat.le_refl _, by simp, Nat.le_refl _, rfl, fun j u h => by simp at h, fun j _ h => by omega⟩
theorem RB.lower {base base' g n cap : Nat} {l : List UInt8} {W : World} (h : RB base g n cap l W) (hb : base' ≤ base) : RB base' g n cap l W := ⟨Nat.le_trans hb h.1, h.2⟩
theorem RB.at {base g n cap : Nat} {l : List UInt8} {W : World} (h : RB base g n cap l W) {j : Nat} {b : UInt8} (hj : l[j]? = some b) : W.cell? ⟨g, j, none⟩ = some (byteV b) := by
  have := h.2.2.2.2.1 j (byteV b) (by rw [List.getElem?_map, hj]; rfl)
  rwa [Nat.zero_add] at this
/-- one byte more, at a region that goes in the text's order -/
theorem wpList_push {W : World} {ops : Array Oper} {rest : List Oper} {o : Oper} {a : Act} {Q : Exit → Act → World → Prop} (hgd : o.guard = none) (s x : Operand)
    (ho : o.op = .call { callee := .builtin .append, args := #[s, x], argTypes := #[31, 31] })
    (base g n cap : Nat) (l : List UInt8) (hs : a.eval s = .slice (some ⟨g, 0, none⟩) n cap) (R : RB base g n cap l W) (b : UInt8) (ad : Go.Addr) (hx : a.eval x = .slice (some ad) 1 1)
    (hc : ∀ j u, [byteV b][j]? = some u → W.cell? (ad.add j) = some u) (hn : n ≤ 140737488355000) (hbase : base ≤ W.heap.size)
    (h : ∀ g' cap' w', RB base g' (n + 1) cap' (l ++ [b]) w' → W.grownBy w' (some g) → (g' = g ∨ W.heap.size ≤ g') → Below base W w' → wpList Tryd.prog ops Q rest (a.put o.dst (.slice (some ⟨g', 0, none⟩) (n + 1) cap')) w') :
    wpList Tryd.prog ops Q (o :: rest) a W := by
  obtain ⟨i0, hi, hz0, hz1, hz2⟩ := info_parts infoB
  obtain ⟨r1, r2, r3, r4, r5, r6⟩ := id R
  refine wpList_append_arg W hgd s x 31 ho 5 i0 (.int .u8 0) 1 1 Tryd.underlying31 hi hz0 hz1 hz2 rfl (by decide) g 0 n cap (l.map byteV) hs (by rw [List.length_map, r4, Nat.mul_one]) r5 ad 1 1 [byteV b] hx rfl hc (one_cell b)
    (fun hr j hj => (by have e : j = 0 := (by simpa using hj); subst e; rw [show 0 + n * 1 + 0 = n by omega]; exact r6 n (Nat.le_refl _) (by omega))) (by unfold maxLen; omega) (by omega) ?_ ?_
  · intro hroom
    rw [show 0 + n * 1 = n by omega]
    refine h g cap _ (R.push hroom b) ⟨rfl, rfl, rfl, ?_, fun k _ hne => ?_⟩ (Or.inl rfl) ((Below.refl _ _).setCell r1 _)
    · show _ ≤ (W.setCell ⟨g, n, none⟩ (byteV b)).heap.size
      simp
    · exact Below.heap_setCell W ⟨g, n, none⟩ (byteV b) k (fun e => hne (by rw [e]))
  · intro hgr v3 w3 hown3 hgrow3
    have e : l.map byteV ++ [byteV b] = (l ++ [b]).map byteV := by simp
    rw [e] at hown3
    obtain ⟨g3, cap3, rfl, RP⟩ := rb_owned hown3
    exact h g3 cap3 w3 (RP.lower hbase) ⟨hgrow3.os, hgrow3.tape, hgrow3.output, hgrow3.size, fun k hk _ => hgrow3.block k hk (by simp)⟩ (Or.inr RP.1) ((Below.refl _ _).grown hgrow3 hbase (fun j hj => by cases hj))

/-- a call that gives a row of bytes -/
def GivesR (l : List UInt8) (w : World) (e : Ending) (w' : World) : Prop := ∃ g cap, e = .returned (.slice (some ⟨g, 0, none⟩) l.length cap) ∧ RB w.heap.size g l.length cap l w' ∧ Below w.heap.size w w'
theorem leL_snoc : ∀ k x, leL (k + 1) x = leL k x ++ [UInt8.ofNat (x / 2 ^ (8 * k) % 256)]
  | 0, x => by simp [leL]
  | k + 1, x => by
    have := leL_snoc k (x / 256)
    rw [leL, this, leL, List.cons_append, Nat.div_div_eq_div_mul, show 256 * 2 ^ (8 * k) = 2 ^ (8 * (k + 1)) by rw [Nat.mul_add, Nat.pow_add, Nat.mul_comm]]
set_option maxRecDepth 100000 in
set_option maxHeartbeats 1000000 in
theorem rtext_any (s : ByteArray) (hs : s.size ≤ 140737488354000) (w : World) : Calls Tryd.prog 20 #[.string s] w (GivesR (textL s.data.toList) w) := by
  obtain ⟨cap0, w2, CV, R0, B0⟩ := conv_rbytes w s
  have hL : s.data.toList.length = s.size := rfl
  have A1 := R0.step (below_alloc w2 (.cells #[byteV 128] 5))
  have HB1 := B0.alloc B0.size (.cells #[byteV 128] 5)
  have z2 := B0.size
  obtain ⟨Z, hZ⟩ : ∃ Z, Z = (119 - s.size % 64) % 64 := ⟨_, rfl⟩
  obtain ⟨N, hN⟩ : ∃ N, N = s.size * 8 := ⟨_, rfl⟩
  have TX := hide (show textL s.data.toList = s.data.toList ++ (128 :: (List.replicate Z 0 ++ leL 8 N)) by
    unfold textL padL
    rw [hL, ← hZ, ← hN, Nat.mod_eq_of_lt (show N < 18446744073709551616 by omega)])
  generalize textL s.data.toList = T at *
  go_enter Tryd.func20, Tryd.ntmps20
  go_wp2_with (at_builtin; refine wpList_push rfl _ _ rfl w.heap.size _ _ _ _ rfl A1 128 ⟨w2.heap.size, 0, none⟩ rfl (one_at w2 128 5) (by omega) (by simp; omega) ?_; intro g1 c1 w3 R1 _ _ HB2)
  have HB := HB1.trans HB2
  clear HB1 HB2 A1 R0 B0 CV z2
  go_loopw [3] (fun v wr => ∃ (g n cap k : Nat), k ≤ Z ∧ Hid (n = s.size + 1 + k) ∧ v = .slice (some ⟨g, 0, none⟩) n cap ∧ RB w.heap.size g n cap (s.data.toList ++ (128 :: List.replicate k 0)) wr ∧ Below w.heap.size w wr) (fun v _ => s.size + 1 + Z - (match v with | .slice _ n _ => n | _ => 0))
  case atStart => exact ⟨g1, _, c1, 0, by omega, hide rfl, rfl, R1, HB⟩
  case round =>
    clear R1 HB
    obtain ⟨g, n, cap, k, hk, NK, rfl, R, hb⟩ := hrel
    by_cases hlt : k < Z
    · have RA := R.step (below_alloc wr (.cells #[byteV 0] 5))
      have HB := hb.alloc hb.size (.cells #[byteV 0] 5)
      have c1 : ¬ (n : Int) % 64 = 56 := by have := NK.out; omega
      have c2 : n ≤ 140737488355000 := by have := NK.out; omega
      have zz := hb.size
      go_wp2_with (at_builtin; refine wpList_push rfl _ _ rfl w.heap.size _ _ _ _ rfl RA 0 ⟨wr.heap.size, 0, none⟩ rfl (one_at wr 0 5) c2 (by simp; omega) ?_; intro g2 cap2 w4 R2 _ _ HB2)
      have HB3 := HB.trans HB2
      rw [List.append_assoc, List.cons_append, ← List.replicate_succ'] at R2
      clear R RA HB HB2 hb
      go_roundw
      case rel => exact ⟨g2, n + 1, cap2, k + 1, by omega, hide (by have := NK.out; omega), rfl, R2, HB3⟩
      case measure => simp; have := NK.out; omega
    · have c1 : (n : Int) % 64 = 56 := by have := NK.out; omega
      obtain rfl : Z = k := by omega
      have HN := hide hN
      clear hN
      go_wp2_with fail
      go_loopw [3, 5] (fun v i wr => ∃ (g n cap k : Nat), k ≤ 8 ∧ i = .int .i64 (k : Int) ∧ Hid (n = s.size + 1 + Z + k) ∧ v = .slice (some ⟨g, 0, none⟩) n cap ∧ RB w.heap.size g n cap (s.data.toList ++ (128 :: (List.replicate Z 0 ++ leL k N))) wr ∧ Below w.heap.size w wr) (fun _ i _ => 8 - (intOf i).toNat)
      case atStart => exact ⟨g, n, cap, 0, by omega, rfl, hide (by have := NK.out; omega), rfl, by simpa [leL] using R, hb⟩
      case round =>
        clear R hb c1 NK
        obtain ⟨g, n, cap, k, hk, rfl, NK, rfl, R, hb⟩ := hrel
        have c2 : n ≤ 140737488355000 := by have := NK.out; omega
        have zz := hb.size
        by_cases hlt : k < 8
        · obtain ⟨b, hB⟩ : ∃ b : UInt8, b = UInt8.ofNat (N / 2 ^ (8 * k) % 256) := ⟨_, rfl⟩
          have RA := R.step (below_alloc wr (.cells #[byteV b] 5))
          have HB := hb.alloc hb.size (.cells #[byteV b] 5)
          have BT : b.toNat = N / 2 ^ (8 * k) % 256 := by rw [hB]; simp
          have b0 := byte_lt b
          have SN := hide (show (s.data.toList ++ (128 :: (List.replicate Z 0 ++ leL k N))) ++ [b] = s.data.toList ++ (128 :: (List.replicate Z 0 ++ leL (k + 1) N)) by
            rw [leL_snoc, ← hB]; simp)
          clear hB R
          rw [HN.out] at BT
          rcases (show k = 0 ∨ k = 1 ∨ k = 2 ∨ k = 3 ∨ k = 4 ∨ k = 5 ∨ k = 6 ∨ k = 7 by omega) with rfl | rfl | rfl | rfl | rfl | rfl | rfl | rfl
          · have SB : (s.size : Int) * 8 % 256 = (b.toNat : Int) := by
              rw [BT]; simp only [Nat.reduceMul, Nat.reducePow]; omega
            clear BT
            go_wp2_with (at_builtin; refine wpList_push rfl _ _ rfl w.heap.size _ _ _ _ rfl RA b ⟨wr.heap.size, 0, none⟩ rfl (one_at wr b 5) c2 (by simp; omega) ?_; intro g2 cap2 w4 R2 _ _ HB2)
            rw [SN.out] at R2
            have HB3 := HB.trans HB2
            clear RA HB HB2 hb SB
            go_roundw
            case rel => exact ⟨g2, n + 1, cap2, 1, by omega, rfl, hide (by have := NK.out; omega), rfl, R2, HB3⟩
            case measure => simp [intOf]
          · have SB : (s.size : Int) * 8 / 256 % 256 = (b.toNat : Int) := by
              rw [BT]; simp only [Nat.reduceMul, Nat.reducePow]; omega
            clear BT
            go_wp2_with (at_builtin; refine wpList_push rfl _ _ rfl w.heap.size _ _ _ _ rfl RA b ⟨wr.heap.size, 0, none⟩ rfl (one_at wr b 5) c2 (by simp; omega) ?_; intro g2 cap2 w4 R2 _ _ HB2)
            rw [SN.out] at R2
            have HB3 := HB.trans HB2
            clear RA HB HB2 hb SB
            go_roundw
            case rel => exact ⟨g2, n + 1, cap2, 2, by omega, rfl, hide (by have := NK.out; omega), rfl, R2, HB3⟩
            case measure => simp [intOf]
          · have SB : (s.size : Int) * 8 / 65536 % 256 = (b.toNat : Int) := by
              rw [BT]; simp only [Nat.reduceMul, Nat.reducePow]; omega
            clear BT
            go_wp2_with (at_builtin; refine wpList_push rfl _ _ rfl w.heap.size _ _ _ _ rfl RA b ⟨wr.heap.size, 0, none⟩ rfl (one_at wr b 5) c2 (by simp; omega) ?_; intro g2 cap2 w4 R2 _ _ HB2)
            rw [SN.out] at R2
            have HB3 := HB.trans HB2
            clear RA HB HB2 hb SB
            go_roundw
            case rel => exact ⟨g2, n + 1, cap2, 3, by omega, rfl, hide (by have := NK.out; omega), rfl, R2, HB3⟩
            case measure => simp [intOf]
          · have SB : (s.size : Int) * 8 / 16777216 % 256 = (b.toNat : Int) := by
              rw [BT]; simp only [Nat.reduceMul, Nat.reducePow]; omega
            clear BT
            go_wp2_with (at_builtin; refine wpList_push rfl _ _ rfl w.heap.size _ _ _ _ rfl RA b ⟨wr.heap.size, 0, none⟩ rfl (one_at wr b 5) c2 (by simp; omega) ?_; intro g2 cap2 w4 R2 _ _ HB2)
            rw [SN.out] at R2
            have HB3 := HB.trans HB2
            clear RA HB HB2 hb SB
            go_roundw
            case rel => exact ⟨g2, n + 1, cap2, 4, by omega, rfl, hide (by have := NK.out; omega), rfl, R2, HB3⟩
            case measure => simp [intOf]
          · have SB : (s.size : Int) * 8 / 4294967296 % 256 = (b.toNat : Int) := by
              rw [BT]; simp only [Nat.reduceMul, Nat.reducePow]; omega
            clear BT
            go_wp2_with (at_builtin; refine wpList_push rfl _ _ rfl w.heap.size _ _ _ _ rfl RA b ⟨wr.heap.size, 0, none⟩ rfl (one_at wr b 5) c2 (by simp; omega) ?_; intro g2 cap2 w4 R2 _ _ HB2)
            rw [SN.out] at R2
            have HB3 := HB.trans HB2
            clear RA HB HB2 hb SB
            go_roundw
            case rel => exact ⟨g2, n + 1, cap2, 5, by omega, rfl, hide (by have := NK.out; omega), rfl, R2, HB3⟩
            case measure => simp [intOf]
          · have SB : (s.size : Int) * 8 / 1099511627776 % 256 = (b.toNat : Int) := by
              rw [BT]; simp only [Nat.reduceMul, Nat.reducePow]; omega
            clear BT
            go_wp2_with (at_builtin; refine wpList_push rfl _ _ rfl w.heap.size _ _ _ _ rfl RA b ⟨wr.heap.size, 0, none⟩ rfl (one_at wr b 5) c2 (by simp; omega) ?_; intro g2 cap2 w4 R2 _ _ HB2)
            rw [SN.out] at R2
            have HB3 := HB.trans HB2
            clear RA HB HB2 hb SB
            go_roundw
            case rel => exact ⟨g2, n + 1, cap2, 6, by omega, rfl, hide (by have := NK.out; omega), rfl, R2, HB3⟩
            case measure => simp [intOf]
          · have SB : (s.size : Int) * 8 / 281474976710656 = (b.toNat : Int) := by
              rw [BT]; simp only [Nat.reduceMul, Nat.reducePow]; omega
            clear BT
            go_wp2_with (at_builtin; refine wpList_push rfl _ _ rfl w.heap.size _ _ _ _ rfl RA b ⟨wr.heap.size, 0, none⟩ rfl (one_at wr b 5) c2 (by simp; omega) ?_; intro g2 cap2 w4 R2 _ _ HB2)
            rw [SN.out] at R2
            have HB3 := HB.trans HB2
            clear RA HB HB2 hb SB
            go_roundw
            case rel => exact ⟨g2, n + 1, cap2, 7, by omega, rfl, hide (by have := NK.out; omega), rfl, R2, HB3⟩
            case measure => simp [intOf]
          · have SB : (s.size : Int) * 8 / 72057594037927936 = (b.toNat : Int) := by
              rw [BT]; simp only [Nat.reduceMul, Nat.reducePow]; omega
            clear BT
            go_wp2_with (at_builtin; refine wpList_push rfl _ _ rfl w.heap.size _ _ _ _ rfl RA b ⟨wr.heap.size, 0, none⟩ rfl (one_at wr b 5) c2 (by simp; omega) ?_; intro g2 cap2 w4 R2 _ _ HB2)
            rw [SN.out] at R2
            have HB3 := HB.trans HB2
            clear RA HB HB2 hb SB
            go_roundw
            case rel => exact ⟨g2, n + 1, cap2, 8, by omega, rfl, hide (by have := NK.out; omega), rfl, R2, HB3⟩
            case measure => simp [intOf]
        · have E := hide (show s.data.toList ++ (128 :: (List.replicate Z 0 ++ leL k N)) = T by rw [TX.out, show k = 8 by omega])
          rw [E.out] at R
          have EL := R.2.2.2.1
          subst EL
          go_wp2
          go_ret
          exact ⟨g, cap, rfl, R, hb⟩
end Go.Proofs.YtiickcdkibcdpaaDoor
