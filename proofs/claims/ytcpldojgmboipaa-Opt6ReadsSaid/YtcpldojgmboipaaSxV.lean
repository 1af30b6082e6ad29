/-
  The contract of readInner: what it returns, and where it gives up. Condition: a string is no longer than an int.
-/
import Derived.Test.YtcpldojgmboipaaSxU
namespace Go.Proofs.Ytcpldojgmboipaa
open Go.RowKit Go.Joins

/-- what is left of bytes behind n -/
abbrev De (s : ByteArray) (n : Nat) : ByteArray := bs ((lb s).drop n)
theorem De_size (s : ByteArray) (n : Nat) : (De s n).size = s.size - n := by rw [bs_len, List.length_drop, lb_len]
theorem De_zero (s : ByteArray) : De s 0 = s := by show bs (lb s) = s; rw [bs_lb]
theorem De_drop (s : ByteArray) (n m : Nat) : bs ((lb (De s n)).drop m) = De s (n + m) := by rw [lb_bs, List.drop_drop]
theorem De_num (s : ByteArray) (n k : Nat) : num k (De s n) = beV (((lb s).drop n).take k) := by unfold num; rw [lb_bs]
abbrev W4 (s : ByteArray) (n : Nat) : UInt32 := UInt32.ofNat (beV (((lb s).drop n).take 4))
theorem tk32 {s : ByteArray} (hs : s.size ≤ maxLen) {n : Nat} (hn : n + 4 ≤ s.size) {b : Nat} {w : World} (h : Rd b (De s n) w) :
    Calls Try.prog 76 #[.pointer (some ⟨b, 0, none⟩)] w (Reads b (.int .u32 ((W4 s n).toNat : Int)) (De s (n + 4)) w) := by
  have z := De_size s n
  have := take32_ok (by omega) (by omega) h
  rw [De_drop, De_num] at this
  have e : ((W4 s n).toNat : Int) = (beV (((lb s).drop n).take 4) : Nat) := by
    rw [UInt32.toNat_ofNat', Nat.mod_eq_of_lt (by have := num_lt 4 (De s n); rw [De_num] at this; exact this)]
  rw [e]; exact this
theorem tk32_no {s : ByteArray} (hs : s.size ≤ maxLen) {n : Nat} (hn : s.size < n + 4) {b : Nat} {w : World} (h : Rd b (De s n) w) :
    Calls Try.prog 76 #[.pointer (some ⟨b, 0, none⟩)] w (Dies 3 (At b) w) := by
  have z := De_size s n
  exact take32_no (by omega) (by omega) h
theorem tkB {s : ByteArray} (hs : s.size ≤ maxLen) {n : Nat} (hn : n + 1 ≤ s.size) {b : Nat} {w : World} (h : Rd b (De s n) w) :
    Calls Try.prog 95 #[.pointer (some ⟨b, 0, none⟩)] w (Reads b (.int .u8 (((lb s).getD n 0).toNat : Int)) (De s (n + 1)) w) := by
  have z := De_size s n
  have := takeByte_ok (by omega) (by omega) h
  rw [De_drop] at this
  rw [show (lb s).getD n 0 = (lb (De s n)).getD 0 0 by rw [lb_bs, List.getD_eq_getElem?_getD, List.getD_eq_getElem?_getD, List.getElem?_drop, Nat.add_zero]]
  exact this
theorem tkB_no {s : ByteArray} (hs : s.size ≤ maxLen) {n : Nat} (hn : s.size < n + 1) {b : Nat} {w : World} (h : Rd b (De s n) w) :
    Calls Try.prog 95 #[.pointer (some ⟨b, 0, none⟩)] w (Dies 3 (At b) w) := by
  have z := De_size s n
  exact takeByte_no (by omega) (by omega) h
theorem tkA {s : ByteArray} (hs : s.size ≤ maxLen) {n : Nat} (hn : n + 16 ≤ s.size) {b : Nat} {w : World} (h : Rd b (De s n) w) :
    Calls Try.prog 96 #[.pointer (some ⟨b, 0, none⟩)] w (Reads b (A (beV (((lb s).drop n).take 16))) (De s (n + 16)) w) := by
  have z := De_size s n
  have := takeAddr_ok (by omega) (by omega) h
  rw [De_drop, De_num] at this
  exact this
set_option maxRecDepth 100000 in
theorem takeAddr_no {b : Nat} {s : ByteArray} (hs : s.size ≤ maxLen) (hn : s.size < 16) {w : World} (h : Rd b s w) :
    Calls Try.prog 96 #[.pointer (some ⟨b, 0, none⟩)] w (Dies 3 (At b) w) := by
  have T := hide (fun W (h : Rd b s W) => tk_no hs hn (by omega) h)
  have R0 := hide (h.step (below_alloc w (.cells #[.int .u64 0, .int .u64 0] 70)))
  have D0 := hide (Fr.alloc w (.cells #[.int .u64 0, .int .u64 0] 70))
  clear h hs hn
  go_enter Try.func96, Try.ntmps96
  go_wp2_with fail
  refine (T.out _ R0.out).mono ?_
  rintro e w1 ⟨rfl, h2⟩
  exact ⟨rfl, rfl, D0.out.no.trans h2 (fun _ _ e => e)⟩
theorem tkA_no {s : ByteArray} (hs : s.size ≤ maxLen) {n : Nat} (hn : s.size < n + 16) {b : Nat} {w : World} (h : Rd b (De s n) w) :
    Calls Try.prog 96 #[.pointer (some ⟨b, 0, none⟩)] w (Dies 3 (At b) w) := by
  have z := De_size s n
  exact takeAddr_no (by omega) (by omega) h
theorem options_at {s : ByteArray} (hs : s.size ≤ maxLen) {n : Nat} {b : Nat} {w : World} (h : Rd b (De s n) w) :
    Calls Try.prog 28 #[.pointer (some ⟨b, 0, none⟩)] w (OptsP b (De s n) w) := options_any (by rw [De_size]; omega) h
abbrev zeroI : Array Value := #[.int .u64 0, .int .u64 0, .int .i64 0, .int .u32 0, .int .u32 0, .int .i64 0]
abbrev noneI : Array Value := #[.int .u64 0, .int .u64 0, .int .i64 0, .int .u32 0, .int .u32 0, .int .i64 (-1)]
/-- the memory of readInner: its three boxes -/
structure RIw (w : World) (s : ByteArray) (n : Nat) (cs : Array Value) (W : World) : Prop where
  below : Below w.heap.size w W
  res : Bx w.heap.size 74 zeroI W
  rd : Rd (w.heap.size + 1) (De s n) W
  box : Bx (w.heap.size + 2) 74 cs W
theorem RIw.step {w : World} {s : ByteArray} {n : Nat} {cs : Array Value} {W W2 : World} (h : RIw w s n cs W) (hb : Below W.heap.size W W2) : RIw w s n cs W2 := ⟨chain h.below hb, h.res.step hb, h.rd.step hb, h.box.step hb⟩
theorem RIw.read {w : World} {s : ByteArray} {n : Nat} {cs : Array Value} {W W2 : World} (h : RIw w s n cs W) {m : Nat} (hr : Rd (w.heap.size + 1) (De s m) W2) (hf : Fr (At (w.heap.size + 1)) W W2) : RIw w s m cs W2 :=
  ⟨h.below.trans (hf.below h.below.size (fun k e => by omega)), h.res.fr hf (by omega), hr, h.box.fr hf (by omega)⟩
theorem RIw.die {w : World} {s : ByteArray} {n : Nat} {cs : Array Value} {W W2 : World} (h : RIw w s n cs W) (hf : Fr (At (w.heap.size + 1)) W W2) : Fr No w W2 :=
  Fr.ofBelow (h.below.trans (hf.below h.below.size (fun k e => by omega)))
theorem RIw.set {w : World} {s : ByteArray} {n : Nat} {cs : Array Value} {W : World} (h : RIw w s n cs W) (i : Nat) (v : Value) : RIw w s n (cs.setIfInBounds i v) (W.setCell ⟨w.heap.size + 2, i, none⟩ v) :=
  ⟨h.below.setCell (by show w.heap.size ≤ w.heap.size + 2; omega) v, h.res.other (by show w.heap.size ≠ w.heap.size + 2; omega) v, (show Rd _ _ _ from Bx.other (t := 54) h.rd (by show w.heap.size + 1 ≠ w.heap.size + 2; omega) v), h.box.set i v⟩
theorem ri_new (w : World) (s : ByteArray) : RIw w s 0 noneI (((w.alloc (.cells zeroI 74)).alloc (.cells #[.string s] 54)).alloc (.cells noneI 74)) := by
  have B := below_alloc w (.cells zeroI 74)
  have B2 := below_alloc (w.alloc (.cells zeroI 74)) (.cells #[.string s] 54)
  have B3 := below_alloc ((w.alloc (.cells zeroI 74)).alloc (.cells #[.string s] 54)) (.cells noneI 74)
  refine ⟨chain (chain B B2) B3, ((bx_new w _ _).step B2).step B3, ?_, ?_⟩
  · have := (rd_new (w.alloc (.cells zeroI 74)) s).step B3
    rw [De_zero]
    simpa using this
  · have := bx_new ((w.alloc (.cells zeroI 74)).alloc (.cells #[.string s] 54)) 74 noneI
    simpa using this
/-- what readInner does -/
def RIP (k : Int) (s : ByteArray) (w : World) (e : Ending) (w' : World) : Prop :=
  match readI k (lb s) with
  | .ok x => e = .returned (IV x) ∧ Below w.heap.size w w'
  | .error y => Dies y No w e w'
theorem rip_ok {k : Int} {s : ByteArray} {x : In} {w w' : World} (h : readI k (lb s) = .ok x) (hb : Below w.heap.size w w') : RIP k s w (.returned (IV x)) w' := by unfold RIP; rw [h]; exact ⟨rfl, hb⟩
theorem rip_no {k : Int} {s : ByteArray} {y : Int} {w w' : World} (h : readI k (lb s) = .error y) (hb : Fr No w w') : RIP k s w (.panicked (Chain y)) w' := by unfold RIP; rw [h]; exact ⟨rfl, hb⟩
theorem readI_short {k : Int} {s : ByteArray} (h : s.size < sizeI k) : readI k (lb s) = .error 3 := by unfold readI; rw [if_pos (by rw [lb_len]; exact h)]
theorem RIw.cast {w : World} {s : ByteArray} {n m : Nat} {cs ds : Array Value} {W : World} (h : RIw w s n cs W) (e : m = n) (f : ds = cs) : RIw w s m ds W := by subst e f; exact h
def innC (k : Int) (s : ByteArray) (c : Int) : Array Value := (cellsV (mkI k (lb s) c)).toArray
theorem mkI_fits (k : Int) (s : List UInt8) (c : Int) : Fits (mkI k s c).addr := by
  have F : ∀ l : List UInt8, l.length ≤ 16 → Fits (beV l) := fun l hl => Nat.lt_of_lt_of_le (beV_lt l) (Nat.pow_le_pow_right (show 0 < 256 by omega) hl)
  unfold mkI
  split
  · exact F _ (by rw [List.length_take]; omega)
  · exact F _ (by rw [List.length_take]; omega)
/-- the memory of readInner's loop: its boxes, and the options -/
structure RJw (w : World) (cs : Array Value) (v : Value) (l : List Opt) (W : World) : Prop where
  below : Below w.heap.size w W
  res : Bx w.heap.size 74 zeroI W
  box : Bx (w.heap.size + 2) 74 cs W
  row : OwnO W (w.heap.size + 3) v l
theorem RJw.step {w : World} {cs : Array Value} {v : Value} {l : List Opt} {W W2 : World} (h : RJw w cs v l W) (hb : Below W.heap.size W W2) : RJw w cs v l W2 := ⟨chain h.below hb, h.res.step hb, h.box.step hb, own_keep h.row hb⟩
theorem RJw.set {w : World} {cs : Array Value} {l : List Opt} {v : Value} {W : World} (h : RJw w cs v l W) (i : Nat) (x : Value) : RJw w (cs.setIfInBounds i x) v l (W.setCell ⟨w.heap.size + 2, i, none⟩ x) :=
  ⟨h.below.setCell (by show w.heap.size ≤ w.heap.size + 2; omega) x, h.res.other (by show w.heap.size ≠ w.heap.size + 2; omega) x, h.box.set i x, own_fr h.row (fr_set W (w.heap.size + 2) i x) (fun g hg e => by have := own_ge h.row g hg.symm; omega)⟩
theorem RIw.opts {w : World} {s : ByteArray} {n : Nat} {cs : Array Value} {W W2 : World} (h : RIw w s n cs W) {v : Value} {l : List Opt} (ho : OwnO W2 W.heap.size v l) (hf : Fr (At (w.heap.size + 1)) W W2) : RJw w cs v l W2 :=
  ⟨h.below.trans (hf.below h.below.size (fun k e => by omega)), h.res.fr hf (by omega), h.box.fr hf (by omega), ownO_base ho (by have := h.box.lt; omega)⟩
theorem readI_go {k : Int} {s : ByteArray} {X : In} (hX : mkI k (lb s) (-1) = X) (hz : sizeI k ≤ s.size) :
    (soundS X.addr X.bits = false → readI k (lb s) = .error 130) ∧
    (soundS X.addr X.bits = true → (∀ y, parseK 0 ((lb s).drop (sizeI k)) = .error y → readI k (lb s) = .error y) ∧
      ∀ l, parseK 0 ((lb s).drop (sizeI k)) = .ok l → (∀ y, statF (-1) l = .error y → readI k (lb s) = .error y) ∧ ∀ c, statF (-1) l = .ok c → readI k (lb s) = .ok { X with code := c }) := by
  have e1 : (mkI k (lb s) 0).addr = X.addr := by rw [← hX, mkI_code k (lb s) (-1) 0]
  have e2 : (mkI k (lb s) 0).bits = X.bits := by rw [← hX, mkI_code k (lb s) (-1) 0]
  have e3 : ¬ (lb s).length < sizeI k := by rw [lb_len]; omega
  unfold readI
  rw [if_neg e3, e1, e2]
  refine ⟨fun h => if_pos h, fun h => ?_⟩
  rw [if_neg (by rw [h]; decide)]
  refine ⟨fun y hp => by rw [hp], fun l hp => ?_⟩
  rw [hp]
  refine ⟨fun y hs => by simp only [hs], fun c hs => ?_⟩
  simp only [hs]
  rw [← hX, mkI_code k (lb s) c (-1)]
theorem statF_13 {x : Opt} {r : List Opt} {c : Int} (h : x.1.toNat = 13) : (x.2.size < 2 → statF c (x :: r) = .error 130) ∧ (¬ x.2.size < 2 → statF c (x :: r) = statF (if c = -1 then (beV ((lb x.2).take 2) : Nat) else c) r) := by
  rw [statF, if_pos h]
  exact ⟨fun h => if_pos h, fun h => if_neg h⟩
theorem statF_no {x : Opt} {r : List Opt} {c : Int} (h : ¬ x.1.toNat = 13) : statF c (x :: r) = statF c r := by rw [statF, if_neg h]
theorem drop_at1 {l : List Opt} {k : Nat} {x : Opt} (h : l[k]? = some x) : l.drop k = x :: l.drop (k + 1) := by
  obtain ⟨hk, e⟩ := List.getElem?_eq_some_iff.1 h
  rw [List.drop_eq_getElem_cons hk, e]
abbrev cellsW (x : In) (c : Int) : Array Value := #[.int .u64 (hi x.addr : Nat), .int .u64 (lo x.addr : Nat), .int .i64 x.bits, .int .u32 (x.pref.toNat : Int), .int .u32 (x.valid.toNat : Int), .int .i64 c]
theorem innC4 {s : ByteArray} : innC 4 s (-1) = #[.int .u64 (hi (beV (((lb s).drop 9).take 16)) : Nat), .int .u64 (lo (beV (((lb s).drop 9).take 16)) : Nat), .int .i64 (((lb s).getD 8 0).toNat : Int), .int .u32 ((W4 s 0).toNat : Int), .int .u32 ((W4 s 4).toNat : Int), .int .i64 (-1)] := rfl
theorem innCn {k : Int} (h : ¬ k = 4) {s : ByteArray} : innC k s (-1) = #[.int .u64 (hi (beV (((lb s).drop 0).take 16)) : Nat), .int .u64 (lo (beV (((lb s).drop 0).take 16)) : Nat), .int .i64 128, .int .u32 ((W4 s 16).toNat : Int), .int .u32 ((W4 s 20).toNat : Int), .int .i64 (-1)] := by
  unfold innC mkI; rw [if_neg h]; rfl
set_option maxRecDepth 100000 in
set_option maxHeartbeats 8000000 in
theorem readInner_any (k : Int) {s : ByteArray} (hs : s.size ≤ maxLen) (w : World) : Calls Try.prog 78 #[.int .i64 k, .string s] w (RIP k s w) := by
  have HR0 := hide (ri_new w s)
  have HS := hide hs
  go_enter Try.func78, Try.ntmps78
  go_upto_if 13 with fail
  go_cut [] (fun wx => RIw w s (sizeI k) (innC k s (-1)) wx ∧ sizeI k ≤ s.size)
  case first =>
    by_cases hk : k = 4
    · subst hk
      have sz : sizeI 4 = 25 := rfl
      obtain ⟨y, hy⟩ : ∃ y, (lb s).getD 8 0 = y := ⟨_, rfl⟩
      have HY := hide hy
      have wy : wrap64 (y.toNat : Int) = (y.toNat : Int) := by have := y.toNat_lt; exact IntWalk.wrap64_in _ ⟨by omega, by omega⟩
      clear hy
      by_cases q0 : s.size < 0 + 4
      · have E := hide (readI_short (k := 4) (s := s) (by omega))
        have TN := hide (tk32_no HS.out q0 HR0.out.rd)
        go_wp2_with fail
        refine TN.out.mono ?_
        rintro e wd ⟨rfl, hd⟩
        exact ⟨rfl, rip_no E.out (HR0.out.die hd)⟩
      · have TY := hide (tk32 HS.out (n := 0) (by omega) HR0.out.rd)
        go_wp2_with fail
        refine TY.out.mono ?_
        rintro e w1 ⟨rfl, hr, hf⟩
        have HQ := hide (HR0.out.read hr hf)
        clear hr hf TY HR0
        have c3 := HQ.out.box.cell 3
        have f3 := HQ.out.box.free 3
        simp at c3
        have HR1 := hide (HQ.out.set 3 (.int .u32 ((W4 s 0).toNat : Int)))
        clear HQ
        by_cases q1 : s.size < 4 + 4
        · have E := hide (readI_short (k := 4) (s := s) (by omega))
          have TN := hide (tk32_no HS.out q1 HR1.out.rd)
          go_wp2_with fail
          refine TN.out.mono ?_
          rintro e wd ⟨rfl, hd⟩
          exact ⟨rfl, rip_no E.out (HR1.out.die hd)⟩
        · have TY := hide (tk32 HS.out (n := 4) (by omega) HR1.out.rd)
          go_wp2_with fail
          refine TY.out.mono ?_
          rintro e w2 ⟨rfl, hr, hf⟩
          have HQ := hide (HR1.out.read hr hf)
          clear hr hf TY HR1
          have c4 := HQ.out.box.cell 4
          have f4 := HQ.out.box.free 4
          simp at c4
          have HR2 := hide (HQ.out.set 4 (.int .u32 ((W4 s 4).toNat : Int)))
          clear HQ
          by_cases q2 : s.size < 8 + 1
          · have E := hide (readI_short (k := 4) (s := s) (by omega))
            have TN := hide (tkB_no HS.out q2 HR2.out.rd)
            go_wp2_with fail
            refine TN.out.mono ?_
            rintro e wd ⟨rfl, hd⟩
            exact ⟨rfl, rip_no E.out (HR2.out.die hd)⟩
          · have TY := hide (tkB HS.out (n := 8) (by omega) HR2.out.rd)
            rw [HY.out] at TY
            go_wp2_with fail
            refine TY.out.mono ?_
            rintro e w3 ⟨rfl, hr, hf⟩
            have HQ := hide (HR2.out.read hr hf)
            clear hr hf TY HR2
            have c2 := HQ.out.box.cell 2
            have f2 := HQ.out.box.free 2
            simp at c2
            have HR3 := hide (HQ.out.set 2 (.int .i64 (y.toNat : Int)))
            clear HQ
            by_cases q3 : s.size < 9 + 16
            · have E := hide (readI_short (k := 4) (s := s) (by omega))
              have TN := hide (tkA_no HS.out q3 HR3.out.rd)
              go_wp2_with fail
              refine TN.out.mono ?_
              rintro e wd ⟨rfl, hd⟩
              exact ⟨rfl, rip_no E.out (HR3.out.die hd)⟩
            · have TY := hide (tkA HS.out (n := 9) (by omega) HR3.out.rd)
              go_wp2_with fail
              refine TY.out.mono ?_
              rintro e w4 ⟨rfl, hr, hf⟩
              have HQ := hide (HR3.out.read hr hf)
              clear hr hf TY HR3
              have c0 := HQ.out.box.cell 0
              have f0 := HQ.out.box.free 0
              have c1 := HQ.out.box.cell 1
              have f1 := HQ.out.box.free 1
              simp at c0 c1
              have HR4 := hide ((HQ.out.set 0 (.int .u64 (hi (beV (((lb s).drop 9).take 16)) : Nat))).set 1 (.int .u64 (lo (beV (((lb s).drop 9).take 16)) : Nat)))
              clear HQ
              go_wp2
              go_meet
              exact ⟨HR4.out.cast rfl (by rw [innC4, HY.out]; rfl), by omega⟩
    · have ek : (k == 4) = false := by simpa using hk
      have sz : sizeI k = 24 := by unfold sizeI; rw [if_neg hk]
      have hk := hide hk
      by_cases q0 : s.size < 0 + 16
      · have E := hide (readI_short (k := k) (s := s) (by omega))
        have TN := hide (tkA_no HS.out q0 HR0.out.rd)
        go_wp2_with fail
        refine TN.out.mono ?_
        rintro e wd ⟨rfl, hd⟩
        exact ⟨rfl, rip_no E.out (HR0.out.die hd)⟩
      · have TY := hide (tkA HS.out (n := 0) (by omega) HR0.out.rd)
        go_wp2_with fail
        refine TY.out.mono ?_
        rintro e w1 ⟨rfl, hr, hf⟩
        have HQ := hide (HR0.out.read hr hf)
        clear hr hf TY HR0
        have c0 := HQ.out.box.cell 0
        have f0 := HQ.out.box.free 0
        have c1 := HQ.out.box.cell 1
        have f1 := HQ.out.box.free 1
        have c2 := HQ.out.box.cell 2
        have f2 := HQ.out.box.free 2
        simp at c0 c1 c2
        have HR1 := hide (((HQ.out.set 0 (.int .u64 (hi (beV (((lb s).drop 0).take 16)) : Nat))).set 1 (.int .u64 (lo (beV (((lb s).drop 0).take 16)) : Nat))).set 2 (.int .i64 128))
        clear HQ
        by_cases q1 : s.size < 16 + 4
        · have E := hide (readI_short (k := k) (s := s) (by omega))
          have TN := hide (tk32_no HS.out q1 HR1.out.rd)
          go_wp2_with fail
          refine TN.out.mono ?_
          rintro e wd ⟨rfl, hd⟩
          exact ⟨rfl, rip_no E.out (HR1.out.die hd)⟩
        · have TY := hide (tk32 HS.out (n := 16) (by omega) HR1.out.rd)
          go_wp2_with fail
          refine TY.out.mono ?_
          rintro e w2 ⟨rfl, hr, hf⟩
          have HQ := hide (HR1.out.read hr hf)
          clear hr hf TY HR1
          have c3 := HQ.out.box.cell 3
          have f3 := HQ.out.box.free 3
          simp at c3
          have HR2 := hide (HQ.out.set 3 (.int .u32 ((W4 s 16).toNat : Int)))
          clear HQ
          by_cases q2 : s.size < 20 + 4
          · have E := hide (readI_short (k := k) (s := s) (by omega))
            have TN := hide (tk32_no HS.out q2 HR2.out.rd)
            go_wp2_with fail
            refine TN.out.mono ?_
            rintro e wd ⟨rfl, hd⟩
            exact ⟨rfl, rip_no E.out (HR2.out.die hd)⟩
          · have TY := hide (tk32 HS.out (n := 20) (by omega) HR2.out.rd)
            go_wp2_with fail
            refine TY.out.mono ?_
            rintro e w3 ⟨rfl, hr, hf⟩
            have HQ := hide (HR2.out.read hr hf)
            clear hr hf TY HR2
            have c4 := HQ.out.box.cell 4
            have f4 := HQ.out.box.free 4
            simp at c4
            have HR3 := hide (HQ.out.set 4 (.int .u32 ((W4 s 20).toNat : Int)))
            clear HQ
            go_wp2
            go_meet
            exact ⟨HR3.out.cast (by unfold sizeI; rw [if_neg hk.out]) (by rw [innCn hk.out]; rfl), by omega⟩
  case rest =>
    obtain ⟨HC, hz⟩ := hcut
    obtain ⟨X, hX⟩ : ∃ X, mkI k (lb s) (-1) = X := ⟨_, rfl⟩
    have fX : Fits X.addr := by rw [← hX]; exact mkI_fits _ _ _
    have cX : (cellsV X).toArray = cellsW X (-1) := by rw [← hX, mkI_code k (lb s) (-1) 0]
    obtain ⟨g1, g2⟩ := readI_go hX hz
    have HC1 := hide (show RIw w s (sizeI k) (cellsW X (-1)) wc by rw [← cX, ← hX]; exact HC)
    have SA := hide (fun W => sound_any fX X.bits W)
    have OP := hide (fun W (h : Rd (w.heap.size + 1) (De s (sizeI k)) W) => options_at hs h)
    have c0 := HC1.out.box.cell 0
    have c1 := HC1.out.box.cell 1
    have c2 := HC1.out.box.cell 2
    simp at c0 c1 c2
    clear hX cX fX hs HC HR0
    cases hb : soundS X.addr X.bits with
    | false =>
      rw [hb] at SA
      have E := hide (g1 hb)
      have M := hide (fun W => must_no 130 W)
      clear g1 g2 hb OP
      go_wp2_with fail
      refine (SA.out _).mono ?_
      rintro e w5 ⟨rfl, hb5⟩
      go_wp2_with fail
      refine (M.out _).mono ?_
      rintro e w6 ⟨rfl, rfl⟩
      exact ⟨rfl, rip_no E.out (Fr.ofBelow (chain HC1.out.below hb5))⟩
    | true =>
      rw [hb] at SA
      have g3 := g2 hb
      have M := hide (fun W => must_yes 130 W)
      clear g1 g2 hb
      go_wp2_with fail
      refine (SA.out _).mono ?_
      rintro e w5 ⟨rfl, hb5⟩
      go_wp2_with fail
      refine (M.out _).mono ?_
      rintro e w6 ⟨rfl, rfl⟩
      have H5 := hide (HC1.out.step hb5)
      clear SA M HC1 hb5 c0 c1 c2
      go_wp2_with fail
      refine (OP.out _ H5.out.rd).mono ?_
      intro e w7 h7
      unfold OptsP at h7
      rw [show lb (De s (sizeI k)) = (lb s).drop (sizeI k) from lb_bs _] at h7
      cases hp : parseK 0 ((lb s).drop (sizeI k)) with
      | error y =>
        rw [hp] at h7
        obtain ⟨rfl, hd⟩ := h7
        exact ⟨rfl, rip_no (g3.1 y hp) (H5.out.die hd)⟩
      | ok l =>
        rw [hp] at h7
        obtain ⟨v, rfl, q1, _, q2⟩ := h7
        have g4 := g3.2 l hp
        have okl := (parse_ok hp).2.1
        have lenl := (parse_ok hp).2.2
        obtain ⟨p, c, rfl, hpc, _⟩ := lenO q1
        have HJ := hide (H5.out.opts q1 q2)
        clear q1 q2 g3 hp H5 OP
        have GE := hide g4.1
        have GO := hide g4.2
        have OKL := hide okl
        clear g4 okl
        go_wp2_with fail
        go_loopw [38] (fun vi wr => ∃ (j : Nat) (cd : Int), j ≤ l.length ∧ vi = .int .i64 (j : Nat) ∧ Hid (statF cd (l.drop j) = statF (-1) l) ∧ Hid (RJw w (cellsW X cd) (.slice p l.length c) l wr)) (fun vi _ => l.length - (intOf vi).toNat)
        case atStart => exact ⟨0, -1, Nat.zero_le _, rfl, hide rfl, HJ⟩
        case round =>
          obtain ⟨j, cd, hj, rfl, HT, HM⟩ := hrel
          clear HJ
          by_cases hlt : j < l.length
          · obtain ⟨x, hx⟩ := getO_some hlt
            obtain ⟨b, o, rfl, _, x1, x2⟩ := lstO_at (ownO_lst HM.out.row) hx
            have kc : j ≤ c := by omega
            have DR := hide (drop_at1 hx)
            have SZ := OKL.out x (List.mem_of_getElem? hx)
            have M1 := hide (HM.out.step (below_alloc wr (.cells #[.int .u16 (x.1.toNat : Int), .string x.2] 40)))
            have X1 := bx_new wr 40 #[.int .u16 (x.1.toNat : Int), .string x.2]
            by_cases h13 : x.1.toNat = 13
            · have e13 : ((x.1.toNat : Int) == 13) = true := by simpa using (show (x.1.toNat : Int) = 13 by omega)
              by_cases h2 : x.2.size < 2
              · have E := hide (GE.out 130 (by rw [← HT.out, DR.out, (statF_13 h13).1 h2]))
                have RS := hide (fun W => readStatus_no (s := x.2) (by unfold maxLen; omega) h2 ⟨w.heap.size + 2, 5, none⟩ W)
                clear hx h13 h2 HT HM DR SZ X1
                go_wp2_with fail
                refine (RS.out _).mono ?_
                rintro e w8 ⟨rfl, hd⟩
                exact ⟨rfl, rip_no E.out (Fr.ofBelow (chain M1.out.below hd.toBelow))⟩
              · have HT2 := hide (show statF (if cd = -1 then (beV ((lb x.2).take 2) : Nat) else cd) (l.drop (j + 1)) = statF (-1) l by rw [← HT.out, DR.out, (statF_13 h13).2 h2])
                have k5 := M1.out.box.cell 5
                have z5 := M1.out.box.free 5
                simp at k5
                have RS := hide (readStatus_ok (s := x.2) (by unfold maxLen; omega) h2 ⟨w.heap.size + 2, 5, none⟩ cd _ k5 z5)
                clear hx h13 h2 HT HM DR SZ X1 k5 z5
                go_wp2_with fail
                refine RS.out.mono ?_
                rintro e w8 ⟨rfl, h8⟩
                have M8 : RJw w (cellsW X (if cd = -1 then (beV ((lb x.2).take 2) : Nat) else cd)) (.slice (some ⟨b, o, none⟩) l.length c) l w8 := by
                  by_cases hc : cd = -1
                  · rw [if_pos hc] at h8 ⊢
                    rw [h8]
                    exact M1.out.set 5 _
                  · rw [if_neg hc] at h8 ⊢
                    rw [h8]
                    exact M1.out
                have M9 := hide M8
                clear M8 h8 M1 RS
                generalize (if cd = -1 then ((beV ((lb x.2).take 2) : Nat) : Int) else cd) = ce at *
                go_wp2
                go_roundw
                case rel => exact ⟨j + 1, ce, hlt, by go_num, HT2, M9⟩
                case measure => simp [intOf]; omega
            · have e13 : ((x.1.toNat : Int) == 13) = false := by simpa using (show ¬ (x.1.toNat : Int) = 13 by omega)
              have HT2 := hide (show statF cd (l.drop (j + 1)) = statF (-1) l by rw [← HT.out, DR.out, statF_no h13])
              clear hx h13 HT HM DR SZ X1
              go_wp2
              go_roundw
              case rel => exact ⟨j + 1, cd, hlt, by go_num, HT2, M1⟩
              case measure => simp [intOf]; omega
          · have : j = l.length := by omega
            subst this
            have E := hide (GO.out cd (by rw [← HT.out, List.drop_length]; rfl))
            clear HT GE GO hlt
            go_wp2_with (first | (refine wpList_load_bx rfl (.tmp 6) rfl (w.heap.size + 2) _ HM.out.box rfl _ Try.underlying74 rfl infoI ?_) | (refine wpList_store_bx rfl (.tmp 4) (.tmp 50) rfl w.heap.size _ _ HM.out.res rfl rfl infoI rfl rfl ?_; intro w9 G9 F9))
            exact bodyPost_ret (v := IV { X with code := cd }) (results_cell_row rfl _ _ w.heap.size _ _ _ _ rfl G9 Try.underlying74 rfl infoI) rfl (rip_ok E.out (HM.out.below.trans (F9.below HM.out.below.size (fun k e => by omega))))
end Go.Proofs.Ytcpldojgmboipaa
