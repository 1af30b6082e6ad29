/-
  The reader: must, take, takeByte, take16, take32, takeAddr, takeRun: what they return, what they leave, and where they give up with an error. Conditions: a string is no longer than an int.
-/
import Derived.Test.YtcpldojgmboipaaSxL
namespace Go.Proofs.Ytcpldojgmboipaa
open Go.RowKit Go.Joins

/-! ### boxes -/
/-- a block of a call's own that holds a value of some cells -/
def Bx (b : Nat) (t : TypeId) (cs : Array Value) (w : World) : Prop := w.heap[b]? = some (.cells cs t (0, 0))
section
variable {b : Nat} {t : TypeId} {cs : Array Value} {w w2 : World}
theorem Bx.cell (h : Bx b t cs w) (i : Nat) : w.cell? ⟨b, i, none⟩ = cs[i]? := cell_at h i
theorem Bx.free (h : Bx b t cs w) (i : Nat) : w.frozen? ⟨b, i, none⟩ = false := free_at h i
theorem Bx.lt (h : Bx b t cs w) : b < w.heap.size := lt_of_block h
theorem Bx.step (h : Bx b t cs w) (hb : Below w.heap.size w w2) : Bx b t cs w2 := (hb.block b (lt_of_block h)).trans h
theorem Bx.fr {S : Nat → Prop} (h : Bx b t cs w) (hb : Fr S w w2) (hn : ¬ S b) : Bx b t cs w2 := hb.keep h hn
theorem Bx.set (h : Bx b t cs w) (i : Nat) (v : Value) : Bx b t (cs.setIfInBounds i v) (w.setCell ⟨b, i, none⟩ v) := set_block h i v
theorem Bx.other (h : Bx b t cs w) {a : Go.Addr} (hn : b ≠ a.block) (v : Value) : Bx b t cs (w.setCell a v) := (Below.heap_setCell w a v b hn).trans h
theorem bx_new (w : World) (t : TypeId) (cs : Array Value) : Bx w.heap.size t cs (w.alloc (.cells cs t)) := heap_alloc_new _ _
def aggD : TypeDesc → Bool
  | .struct _ => true
  | .array _ _ => true
  | _ => false
/-- a whole value is stored -/
theorem wpList_store_bx {ops : Array Oper} {rest : List Oper} {o : Oper} {a : Act} {Q : Exit → Act → World → Prop} (hgd : o.guard = none) (x y : Operand) (ho : o.op = .store t x y)
    (b : Nat) (cs new : Array Value) (G : Bx b t cs w) (hx : a.eval x = .pointer (some ⟨b, 0, none⟩)) (hy : a.eval y = .agg new) (hi : (Try.prog.info? t).map (·.size) = some new.size) (hs : cs.size = new.size) (hv : new.toList.all (·.oneCell') = true)
    (h : ∀ w2, Bx b t new w2 → Fr (fun k => k = b) w w2 → wpList Try.prog ops Q rest (a.put o.dst undef) w2) : wpList Try.prog ops Q (o :: rest) a w :=
  wpList_store_row hgd t x y ho b new hx hy _ _ G hi hs (by rw [← Array.all_toList]; exact hv) (h _ (setRow_heap w b _ _ _ _ G) (by
    have B := below_setRow (Below.refl b w) (Nat.le_refl b) new
    exact ⟨B.os, B.tape, B.output, by simp [World.setRow], fun k _ hk => setRow_other w b k _ hk⟩))
/-- .. is loaded -/
theorem wpList_load_bx {ops : Array Oper} {rest : List Oper} {o : Oper} {a : Act} {Q : Exit → Act → World → Prop} (hgd : o.guard = none) (x : Operand) (ho : o.op = .load t x)
    (b : Nat) (cs : Array Value) (G : Bx b t cs w) (hx : a.eval x = .pointer (some ⟨b, 0, none⟩)) (d : TypeDesc) (hu : Try.prog.underlying t = some d) (hd : aggD d = true) (hi : (Try.prog.info? t).map (·.size) = some cs.size)
    (h : wpList Try.prog ops Q rest (a.put o.dst (.agg cs)) w) : wpList Try.prog ops Q (o :: rest) a w :=
  wpList_load_row hgd t x ho b hx _ _ _ _ G hu (by cases d <;> first | rfl | (simp [aggD] at hd)) hi h
end
theorem infoZ : (Try.prog.info? 40).map (·.size) = some 2 := by kernel_rfl
theorem infoI : (Try.prog.info? 74).map (·.size) = some 6 := by kernel_rfl
theorem infoIA : (Try.prog.info? 37).map (·.size) = some 6 := by kernel_rfl
theorem infoAd : (Try.prog.info? 70).map (·.size) = some 2 := by kernel_rfl
abbrev Chain (x : Int) : List PanicEntry := [{ v := .iface 24 (.int .i64 x), recovered := false }]
/-- a call that gives up with an error -/
def Dies (x : Int) (S : Nat → Prop) (w : World) (e : Ending) (w' : World) : Prop := e = .panicked (Chain x) ∧ Fr S w w'
theorem must_yes (x : Int) (w : World) : Calls Try.prog 60 #[.bool true, .int .i64 x] w (Same (.tuple #[]) w) := by
  go_enter Try.func60, Try.ntmps60
  go_wp2
  exact bodyPost_end (v := .tuple #[]) (by simp [results, Try.results60, go_sem]) rfl ⟨rfl, rfl⟩
theorem must_no (x : Int) (w : World) : Calls Try.prog 60 #[.bool false, .int .i64 x] w fun e w' => e = .panicked (Chain x) ∧ w = w' := by
  go_enter Try.func60, Try.ntmps60
  go_wp2
  exact ⟨rfl, rfl, rfl⟩
/-- a reader: what it has left -/
def Rd (b : Nat) (s : ByteArray) (w : World) : Prop := w.heap[b]? = some (.cells #[.string s] 54 (0, 0))
theorem Rd.cell {b : Nat} {s : ByteArray} {w : World} (h : Rd b s w) : w.cell? ⟨b, 0, none⟩ = some (.string s) := cell_at h 0
theorem Rd.free {b : Nat} {s : ByteArray} {w : World} (h : Rd b s w) : w.frozen? ⟨b, 0, none⟩ = false := free_at h 0
theorem Rd.lt {b : Nat} {s : ByteArray} {w : World} (h : Rd b s w) : b < w.heap.size := lt_of_block h
theorem Rd.step {b : Nat} {s : ByteArray} {w w2 : World} (h : Rd b s w) (hb : Below w.heap.size w w2) : Rd b s w2 := (hb.block b (lt_of_block h)).trans h
theorem Rd.fr {S : Nat → Prop} {b : Nat} {s : ByteArray} {w w2 : World} (h : Rd b s w) (hb : Fr S w w2) (hn : ¬ S b) : Rd b s w2 := hb.keep h hn
theorem Rd.set {b : Nat} {s : ByteArray} {w : World} (h : Rd b s w) (t : ByteArray) : Rd b t (w.setCell ⟨b, 0, none⟩ (.string t)) := set_block h 0 (.string t)
theorem rd_new (w : World) (s : ByteArray) : Rd w.heap.size s (w.alloc (.cells #[.string s] 54)) := heap_alloc_new _ _
theorem fr_set (w : World) (b o : Nat) (v : Value) : Fr (fun k => k = b) w (w.setCell ⟨b, o, none⟩ v) := Fr.set w ⟨b, o, none⟩ v
abbrev At (b : Nat) : Nat → Prop := fun k => k = b
/-- what a reading gives and leaves -/
def Reads (b : Nat) (v : Value) (s : ByteArray) (w : World) (e : Ending) (w' : World) : Prop := e = .returned v ∧ Rd b s w' ∧ Fr (At b) w w'
theorem drop_str (s : ByteArray) {n : Nat} (_h : n ≤ s.size) : s.extract n s.size = bs ((lb s).drop n) := by
  refine lb_inj ?_
  rw [lb_bs]
  show (s.extract n s.size).data.toList = _
  rw [ByteArray.data_extract, Array.toList_extract, List.extract_eq_take_drop]
  refine List.take_of_length_le ?_
  rw [List.length_drop, Array.length_toList]
  exact Nat.le_refl _
set_option maxRecDepth 100000 in
theorem tk_ok {b : Nat} {s : ByteArray} (hs : s.size ≤ maxLen) {n : Nat} (hn : n ≤ s.size) {w : World} (h : Rd b s w) :
    Calls Try.prog 82 #[.pointer (some ⟨b, 0, none⟩), .int .i64 (n : Int)] w (Reads b (.string (bs ((lb s).take n))) (bs ((lb s).drop n)) w) := by
  have hm := hs
  unfold maxLen at hm
  have C := hide (fun W => cut_any s hs (show I64 0 from ⟨by omega, by omega⟩) (show I64 (n : Int) from ⟨by omega, by omega⟩) W)
  have hO : cutO s 0 (n : Int) = true := by unfold cutO; rw [decide_eq_true_eq]; omega
  have V : cutV s 0 (n : Int) = bs ((lb s).take n) := by rw [cut_yes hO, sub_bs]; rfl
  have M := hide (fun W => must_yes 3 W)
  rw [hO, V] at C
  have D := hide (drop_str s hn)
  have K := hide h
  have c0 := h.cell
  have f0 := h.free
  generalize bs ((lb s).take n) = p at *
  clear V hO hs h
  go_enter Try.func82, Try.ntmps82
  go_wp2_with fail
  refine (C.out _).mono ?_
  rintro e w1 ⟨rfl, rfl⟩
  go_wp2_with fail
  refine (M.out _).mono ?_
  rintro e w1 ⟨rfl, rfl⟩
  go_wp2
  go_ret
  rw [D.out]
  exact ⟨rfl, K.out.set _, fr_set _ _ _ _⟩
set_option maxRecDepth 100000 in
theorem tk_no {b : Nat} {s : ByteArray} (hs : s.size ≤ maxLen) {n : Nat} (hn : s.size < n) (hn2 : n ≤ 65536) {w : World} (h : Rd b s w) :
    Calls Try.prog 82 #[.pointer (some ⟨b, 0, none⟩), .int .i64 (n : Int)] w (Dies 3 (At b) w) := by
  have hm := hs
  unfold maxLen at hm
  have C := hide (fun W => cut_any s hs (show I64 0 from ⟨by omega, by omega⟩) (show I64 (n : Int) from ⟨by omega, by omega⟩) W)
  have hO : cutO s 0 (n : Int) = false := by unfold cutO; rw [decide_eq_false_iff_not]; omega
  have M := hide (fun W => must_no 3 W)
  rw [hO] at C
  have c0 := h.cell
  have f0 := h.free
  generalize cutV s 0 (n : Int) = p at *
  clear hO hs h hm
  go_enter Try.func82, Try.ntmps82
  go_wp2_with fail
  refine (C.out _).mono ?_
  rintro e w1 ⟨rfl, rfl⟩
  go_wp2_with fail
  refine (M.out _).mono ?_
  rintro e w1 ⟨rfl, rfl⟩
  exact ⟨rfl, rfl, Fr.refl _ _⟩
/-- the number that the first k bytes are -/
def num (k : Nat) (s : ByteArray) : Nat := beV ((lb s).take k)
theorem num_lt (k : Nat) (s : ByteArray) : num k s < 256 ^ k := by
  unfold num
  exact Nat.lt_of_lt_of_le (beV_lt _) (Nat.pow_le_pow_right (by omega) (by rw [List.length_take]; omega))
theorem get_num {s : ByteArray} {k : Nat} (h : k ≤ s.size) : getV k (bs ((lb s).take k)) 0 = num k s := by
  have hl : (bs ((lb s).take k)).size = k := by rw [bs_len, List.length_take, lb_len]; omega
  have hO : cutO (bs ((lb s).take k)) 0 (k : Int) = true := by unfold cutO; rw [hl, decide_eq_true_eq]; omega
  unfold getV num
  rw [cut_yes hO, sub_list, lb_bs]
  show beV ((((lb s).take k).drop 0).take k) = _
  rw [List.drop_zero, List.take_take, Nat.min_self]
theorem size_take {s : ByteArray} {k : Nat} (hs : s.size ≤ maxLen) : (bs ((lb s).take k)).size ≤ maxLen := by
  rw [bs_len, List.length_take, lb_len]; omega
set_option maxRecDepth 100000 in
theorem take16_ok {b : Nat} {s : ByteArray} (hs : s.size ≤ maxLen) (hn : 2 ≤ s.size) {w : World} (h : Rd b s w) :
    Calls Try.prog 58 #[.pointer (some ⟨b, 0, none⟩)] w (Reads b (.int .u16 (num 2 s : Nat)) (bs ((lb s).drop 2)) w) := by
  have T := hide (tk_ok hs hn h)
  have G := hide (fun W => get16_any (bs ((lb s).take 2)) (size_take hs) (show I64 0 from ⟨by omega, by omega⟩) W)
  rw [get_num hn] at G
  have N := num_lt 2 s
  generalize num 2 s = v at *
  generalize cutO (bs ((lb s).take 2)) 0 2 = o at *
  generalize bs ((lb s).take 2) = p at *
  clear h hs hn
  go_enter Try.func58, Try.ntmps58
  go_wp2_with fail
  refine T.out.mono ?_
  rintro e w1 ⟨rfl, h1, h2⟩
  go_wp2_with fail
  refine (G.out _).mono ?_
  rintro e w2 ⟨rfl, rfl⟩
  go_wp2
  go_ret
  exact ⟨rfl, h1, h2⟩
set_option maxRecDepth 100000 in
theorem take16_no {b : Nat} {s : ByteArray} (hs : s.size ≤ maxLen) (hn : s.size < 2) {w : World} (h : Rd b s w) :
    Calls Try.prog 58 #[.pointer (some ⟨b, 0, none⟩)] w (Dies 3 (At b) w) := by
  have T := hide (tk_no hs hn (by omega) h)
  clear h hs hn
  go_enter Try.func58, Try.ntmps58
  go_wp2_with fail
  refine T.out.mono ?_
  rintro e w1 ⟨rfl, h2⟩
  exact ⟨rfl, rfl, h2⟩
set_option maxRecDepth 100000 in
theorem take32_ok {b : Nat} {s : ByteArray} (hs : s.size ≤ maxLen) (hn : 4 ≤ s.size) {w : World} (h : Rd b s w) :
    Calls Try.prog 76 #[.pointer (some ⟨b, 0, none⟩)] w (Reads b (.int .u32 (num 4 s : Nat)) (bs ((lb s).drop 4)) w) := by
  have T := hide (tk_ok hs hn h)
  have G := hide (fun W => get32_any (bs ((lb s).take 4)) (size_take hs) (show I64 0 from ⟨by omega, by omega⟩) W)
  rw [get_num hn] at G
  have N := num_lt 4 s
  generalize num 4 s = v at *
  generalize cutO (bs ((lb s).take 4)) 0 4 = o at *
  generalize bs ((lb s).take 4) = p at *
  clear h hs hn
  go_enter Try.func76, Try.ntmps76
  go_wp2_with fail
  refine T.out.mono ?_
  rintro e w1 ⟨rfl, h1, h2⟩
  go_wp2_with fail
  refine (G.out _).mono ?_
  rintro e w2 ⟨rfl, rfl⟩
  go_wp2
  go_ret
  exact ⟨rfl, h1, h2⟩
set_option maxRecDepth 100000 in
theorem take32_no {b : Nat} {s : ByteArray} (hs : s.size ≤ maxLen) (hn : s.size < 4) {w : World} (h : Rd b s w) :
    Calls Try.prog 76 #[.pointer (some ⟨b, 0, none⟩)] w (Dies 3 (At b) w) := by
  have T := hide (tk_no hs hn (by omega) h)
  clear h hs hn
  go_enter Try.func76, Try.ntmps76
  go_wp2_with fail
  refine T.out.mono ?_
  rintro e w1 ⟨rfl, h2⟩
  exact ⟨rfl, rfl, h2⟩
set_option maxRecDepth 100000 in
theorem takeByte_ok {b : Nat} {s : ByteArray} (hs : s.size ≤ maxLen) (hn : 1 ≤ s.size) {w : World} (h : Rd b s w) :
    Calls Try.prog 95 #[.pointer (some ⟨b, 0, none⟩)] w (Reads b (.int .u8 (((lb s).getD 0 0).toNat : Int)) (bs ((lb s).drop 1)) w) := by
  have T := hide (tk_ok hs hn h)
  obtain ⟨x, r, hx⟩ : ∃ x r, lb s = x :: r := by
    cases e : lb s with
    | nil => have := lb_len s; rw [e] at this; simp at this; omega
    | cons x r => exact ⟨x, r, rfl⟩
  rw [hx] at T ⊢
  have I : ∀ W : World, (Instr.index 9 (.string (bs ((x :: r).take 1))) (.int .i64 0)).run Try.prog W = .ok (.int .u8 (x.toNat : Int)) W := fun W => by
    show (Instr.index 9 (.string (bs [x])) (.int .i64 0)).run Try.prog W = _
    kernel_rfl
  show Calls _ _ _ _ (Reads b (.int .u8 (x.toNat : Int)) _ w)
  generalize bs ((x :: r).take 1) = p at *
  generalize bs ((x :: r).drop 1) = q at *
  clear h hs hn hx
  go_enter Try.func95, Try.ntmps95
  go_wp2_with fail
  refine T.out.mono ?_
  rintro e w1 ⟨rfl, h1, h2⟩
  have I1 := I w1
  clear I
  go_wp2
  go_ret
  exact ⟨rfl, h1, h2⟩
set_option maxRecDepth 100000 in
theorem takeByte_no {b : Nat} {s : ByteArray} (hs : s.size ≤ maxLen) (hn : s.size < 1) {w : World} (h : Rd b s w) :
    Calls Try.prog 95 #[.pointer (some ⟨b, 0, none⟩)] w (Dies 3 (At b) w) := by
  have T := hide (tk_no hs hn (by omega) h)
  clear h hs hn
  go_enter Try.func95, Try.ntmps95
  go_wp2_with fail
  refine T.out.mono ?_
  rintro e w1 ⟨rfl, h2⟩
  exact ⟨rfl, rfl, h2⟩
theorem getA_num {s : ByteArray} (h : 16 ≤ s.size) : getA (bs ((lb s).take 16)) 0 = num 16 s := get_num h
theorem num_fits (s : ByteArray) : Fits (num 16 s) := num_lt 16 s
set_option maxRecDepth 100000 in
theorem takeAddr_ok {b : Nat} {s : ByteArray} (hs : s.size ≤ maxLen) (hn : 16 ≤ s.size) {w : World} (h : Rd b s w) :
    Calls Try.prog 96 #[.pointer (some ⟨b, 0, none⟩)] w (Reads b (A (num 16 s)) (bs ((lb s).drop 16)) w) := by
  have T := hide (fun W (h : Rd b s W) => tk_ok hs hn h)
  have G := hide (fun W => getAddr_any (bs ((lb s).take 16)) (size_take hs) (show I64 0 from ⟨by omega, by omega⟩) W)
  rw [getA_num hn] at G
  have R0 := hide (h.step (below_alloc w (.cells #[.int .u64 0, .int .u64 0] 70)))
  have D0 := hide (Fr.alloc w (.cells #[.int .u64 0, .int .u64 0] 70))
  have H0 := hide (heap_alloc_new w (.cells #[.int .u64 0, .int .u64 0] 70))
  have lb0 := h.lt
  generalize num 16 s = v at *
  generalize cutO (bs ((lb s).take 16)) 0 16 = o at *
  generalize bs ((lb s).take 16) = p at *
  clear h hs hn
  go_enter Try.func96, Try.ntmps96
  go_wp2_with fail
  refine (T.out _ R0.out).mono ?_
  rintro e w1 ⟨rfl, h1, h2⟩
  have H1 := hide (h2.keep H0.out (by omega))
  have h3 := hide (Fr.trans D0.out.no h2 (fun _ _ e => e))
  clear h2 H0 D0 R0 T
  go_wp2_with fail
  refine (G.out _).mono ?_
  rintro e w2 ⟨rfl, hb⟩
  have s2 := hb.size
  have R2 := hide (h1.step hb)
  have H2 := hide ((hb.block _ (lt_of_block H1.out)).trans H1.out)
  have D2 := hide (h3.out.andNo (Fr.ofBelow hb))
  clear h1 hb H1 h3 G
  have B3 := hide (below_alloc w2 (.cells #[.int .u64 (hi v : Nat), .int .u64 (lo v : Nat)] 70))
  have H3 := hide ((B3.out.block _ (lt_of_block H2.out)).trans H2.out)
  have c0 := cell_at H3.out 0
  have c1 := cell_at H3.out 1
  have f0 := free_at H3.out 0
  have f1 := free_at H3.out 1
  go_wp2
  have X := set_block (set_block H3.out 0 (.int .u64 (hi v : Nat))) 1 (.int .u64 (lo v : Nat))
  have D4 := Fr.trans (Fr.trans (Fr.ofBelow B3.out).no (fr_set _ w.heap.size 0 (.int .u64 (hi v : Nat))) (S := fun k => k = w.heap.size) (fun _ _ e => e)) (fr_set _ w.heap.size 1 (.int .u64 (lo v : Nat))) (fun _ _ e => e)
  refine bodyPost_ret (v := A v) (results_cell_row rfl _ _ w.heap.size _ _ _ _ rfl X Try.underlying70 rfl infoAd) rfl ⟨rfl, R2.out.fr D4 (by omega), ?_⟩
  exact Fr.trans D2.out D4 (fun i hi e => by omega)
/-- the length in the first two bytes, and the data behind them -/
def runN (s : ByteArray) : Nat := num 2 s
def runD (s : ByteArray) : List UInt8 := ((lb s).drop 2).take (runN s)
theorem run_yes {s : ByteArray} (h1 : 2 ≤ s.size) (h2 : 2 + runN s ≤ s.size) : takeO s 0 = true ∧ takeV s 0 = bs (runD s) ∧ takeE s 0 = ((2 + runN s : Nat) : Int) := by
  have c1 : cutO s 0 (2 : Nat) = true := by unfold cutO; rw [decide_eq_true_eq]; omega
  have g : getV 2 s 0 = runN s := by unfold getV runN num; rw [cut_yes c1, sub_list]; rfl
  have c2 : cutO s (0 + 2) (getV 2 s 0 : Nat) = true := by rw [g]; unfold cutO; rw [decide_eq_true_eq]; omega
  obtain ⟨e1, e2, e3⟩ := take_yes c1 c2
  refine ⟨e3, ?_, by rw [e2, g]; omega⟩
  rw [e1, cut_yes c2, sub_bs, g]; rfl
theorem run_no {s : ByteArray} (h : ¬ (2 ≤ s.size ∧ 2 + runN s ≤ s.size)) : takeO s 0 = false := by
  by_cases h1 : 2 ≤ s.size
  · have c1 : cutO s 0 (2 : Nat) = true := by unfold cutO; rw [decide_eq_true_eq]; omega
    have g : getV 2 s 0 = runN s := by unfold getV runN num; rw [cut_yes c1, sub_list]; rfl
    exact (take_no2 (by rw [g]; unfold cutO; rw [decide_eq_false_iff_not]; omega)).2.2
  · exact (take_no1 (by unfold cutO; rw [decide_eq_false_iff_not]; omega)).2.2
theorem runD_len {s : ByteArray} (h2 : 2 + runN s ≤ s.size) : (bs (runD s)).size = runN s := by
  rw [bs_len]; unfold runD; rw [List.length_take, List.length_drop, lb_len]; omega
theorem runN_lt (s : ByteArray) : runN s < 65536 := num_lt 2 s
set_option maxRecDepth 100000 in
theorem takeRun_ok {b : Nat} {s : ByteArray} (hs : s.size ≤ maxLen) (h1 : 2 ≤ s.size) (h2 : 2 + runN s ≤ s.size) {w : World} (h : Rd b s w) :
    Calls Try.prog 59 #[.pointer (some ⟨b, 0, none⟩)] w (Reads b (.string (bs (runD s))) (bs ((lb s).drop (2 + runN s))) w) := by
  have hm := hs
  unfold maxLen at hm
  have T := hide (fun W => takeRun_any s hs (show I64 0 from ⟨by omega, by omega⟩) W)
  obtain ⟨e1, e2, e3⟩ := run_yes h1 h2
  rw [e1, e2, e3] at T
  have M := hide (fun W => must_yes 3 W)
  have C := hide (fun W => clone_str (bs (runD s)) (by rw [runD_len h2]; have := runN_lt s; omega) W)
  have D := hide (drop_str s h2)
  have hn : (((2 + runN s : Nat)) : Int) ≤ (s.size : Int) := by omega
  have lb0 := h.lt
  generalize bs (runD s) = p at *
  generalize 2 + runN s = n at *
  clear e1 e2 e3 hm h1 hs
  go_enter Try.func59, Try.ntmps59
  have c0 := h.cell
  go_wp2_with fail
  refine (T.out _).mono ?_
  rintro e w1 ⟨rfl, rfl⟩
  go_wp2_with fail
  refine (M.out _).mono ?_
  rintro e w2 ⟨rfl, rfl⟩
  have H1 := hide h
  have f0 := h.free
  clear T M
  go_wp2_with fail
  refine (C.out _).mono ?_
  rintro e w3 ⟨rfl, hb3⟩
  rw [D.out] at hb3
  have R3 := (H1.out.set (bs ((lb s).drop n))).step hb3
  have F3 : Fr (At b) w w3 := (fr_set w b 0 (.string (bs ((lb s).drop n)))).andNo (Fr.ofBelow hb3)
  have RR := hide R3
  have FF := hide F3
  clear R3 F3 hb3 C D
  go_wp2
  go_ret
  exact ⟨rfl, RR.out, FF.out⟩
set_option maxRecDepth 100000 in
theorem takeRun_no {b : Nat} {s : ByteArray} (hs : s.size ≤ maxLen) (h1 : ¬ (2 ≤ s.size ∧ 2 + runN s ≤ s.size)) {w : World} (h : Rd b s w) :
    Calls Try.prog 59 #[.pointer (some ⟨b, 0, none⟩)] w (Dies 3 (At b) w) := by
  have T := hide (fun W => takeRun_any s hs (show I64 0 from ⟨by omega, by omega⟩) W)
  rw [run_no h1] at T
  have M := hide (fun W => must_no 3 W)
  have c0 := h.cell
  generalize takeV s 0 = p at *
  generalize takeE s 0 = n at *
  clear h1 hs h
  go_enter Try.func59, Try.ntmps59
  go_wp2_with fail
  refine (T.out _).mono ?_
  rintro e w1 ⟨rfl, rfl⟩
  go_wp2_with fail
  refine (M.out _).mono ?_
  rintro e w2 ⟨rfl, rfl⟩
  exact ⟨rfl, rfl, Fr.refl _ _⟩
end Go.Proofs.Ytcpldojgmboipaa
