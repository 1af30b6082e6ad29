/-
  A field behind an interface: the contracts of zeros, Blank, write, read. Conditions: a string is no longer than an int; read is asked only where the bytes are there.
-/
import Derived.Test.YtmoklodaeicpgaaWM
import Derived.Test.YtmoklodaeicpgaaOctC
import Derived.Test.YtmoklodaeicpgaaOpS
import Derived.Test.YtmoklodaeicpgaaOpW
import Derived.Laws.Tables
import Derived.Laws.Rows
namespace Go.Proofs.Ytmoklodaeicpgaa
open Go.RowKit Go.Joins

def Fv.ty : Fv → TypeId
  | .u8 _ => 76
  | .u16 _ => 78
  | .u32 _ => 77
  | .st _ => 79
/-- a pointer to a field, as an interface's value -/
abbrev PF (f : Fv) (p : Go.Addr) : Value := .iface f.ty (.pointer (some p))
theorem clone_str (s : ByteArray) (hs : s.size ≤ 281474976710656) (w : World) : Calls Try.prog 69 #[.string s] w (Gives (.string s) w) := by
  have C := hide (Try.stringslite_Clone s w hs)
  clear hs
  go_enter Try.func69, Try.ntmps69
  go_wp2_with fail
  refine C.out.mono ?_
  rintro en w' ⟨rfl, hb⟩
  go_wp2
  go_ret
  exact ⟨rfl, hb⟩
set_option maxRecDepth 100000 in
theorem zeros_any (n : Nat) (hn : n ≤ 2147483647) (w : World) : Calls Try.prog 21 #[.int .i64 (n : Int)] w (Gives (.string (nul n)) w) := by
  have P := hide (pad_yes ⟨#[]⟩ n (by show 0 + n ≤ _; omega) w)
  rw [show (((ByteArray.mk #[]).size + n : Nat) : Int) = (n : Int) by show ((0 + n : Nat) : Int) = _; rw [Nat.zero_add], show padV ⟨#[]⟩ n = nul n from rfl] at P
  generalize nul n = z at *
  clear hn
  go_enter Try.func21, Try.ntmps21
  go_wp2_with fail
  refine P.out.mono ?_
  rintro en w' ⟨rfl, hb⟩
  go_wp2
  go_ret
  exact ⟨rfl, hb⟩
/-- a message's value: its head, and its options' slice -/
abbrev MV (m : Hd) (v : Value) : Value := .agg #[.int .u8 (m.op.toNat : Int), .int .u8 (m.ht.toNat : Int), .int .u8 (m.hl.toNat : Int), .int .u8 (m.ho.toNat : Int), .int .u32 (m.xid.toNat : Int), .int .u16 (m.secs.toNat : Int), .int .u16 (m.flags.toNat : Int), .int .u32 (m.ci.toNat : Int), .int .u32 (m.yi.toNat : Int), .int .u32 (m.si.toNat : Int), .int .u32 (m.gi.toNat : Int), .string m.hard, .string m.name, .string m.file, v]
abbrev cellsM (m : Hd) (v : Value) : Array Value := #[.int .u8 (m.op.toNat : Int), .int .u8 (m.ht.toNat : Int), .int .u8 (m.hl.toNat : Int), .int .u8 (m.ho.toNat : Int), .int .u32 (m.xid.toNat : Int), .int .u16 (m.secs.toNat : Int), .int .u16 (m.flags.toNat : Int), .int .u32 (m.ci.toNat : Int), .int .u32 (m.yi.toNat : Int), .int .u32 (m.si.toNat : Int), .int .u32 (m.gi.toNat : Int), .string m.hard, .string m.name, .string m.file, v]
abbrev cellsF (fs : List Fv) (v : Value) : Array Value := (fs.map Fv.val ++ [v]).toArray
theorem cells_fs (m : Hd) (v : Value) : cellsF m.fs v = cellsM m v := rfl
theorem infoM : (Try.prog.info? 26).map (·.size) = some 15 := by kernel_rfl
/-- a box that holds a message -/
def BoxM (b : Nat) (m : Hd) (v : Value) (W : World) : Prop := W.heap[b]? = some (.cells (cellsM m v) 26 (0, 0))
theorem BoxM.step {b : Nat} {m : Hd} {v : Value} {W w2 : World} (h : BoxM b m v W) (hb : Below W.heap.size W w2) : BoxM b m v w2 := (hb.block b (lt_of_block h)).trans h
theorem box_new (w : World) (m : Hd) (v : Value) : BoxM w.heap.size m v (w.alloc (.cells (cellsM m v) 26)) := heap_alloc_new _ _
theorem cells_one (m : Hd) (v : Value) (hv : v.oneCell' = true) : (cellsM m v).all (·.oneCell') = true :=
  Array.all_eq_true_iff_forall_mem.2 fun u hu => by
    simp only [List.mem_toArray, List.mem_cons, List.not_mem_nil, or_false] at hu
    rcases hu with rfl | rfl | rfl | rfl | rfl | rfl | rfl | rfl | rfl | rfl | rfl | rfl | rfl | rfl | rfl
    all_goals first | rfl | exact hv
/-- a whole message is stored -/
theorem wpList_store_box {ops : Array Oper} {rest : List Oper} {o : Oper} {a : Act} {w : World} {Q : Exit → Act → World → Prop} (hgd : o.guard = none) (x y : Operand) (ho : o.op = .store 26 x y)
    (b : Nat) (m m2 : Hd) (v v2 : Value) (hx : a.eval x = .pointer (some ⟨b, 0, none⟩)) (hy : a.eval y = MV m2 v2) (hv : v2.oneCell' = true) (G : BoxM b m v w)
    (h : ∀ w2, BoxM b m2 v2 w2 → (∀ base, base ≤ b → Below base w w2) → (∀ k, k ≠ b → w2.heap[k]? = w.heap[k]?) → wpList Try.prog ops Q rest (a.put o.dst undef) w2) : wpList Try.prog ops Q (o :: rest) a w :=
  wpList_store_row hgd 26 x y ho b (cellsM m2 v2) hx hy _ _ G infoM rfl (cells_one m2 v2 hv) (h _ (setRow_heap w b _ _ _ _ G) (fun _ hb => below_setRow (Below.refl _ _) hb _) (fun k hk => setRow_other w b k _ hk))
/-- .. is loaded -/
theorem wpList_load_box {ops : Array Oper} {rest : List Oper} {o : Oper} {a : Act} {w : World} {Q : Exit → Act → World → Prop} (hgd : o.guard = none) (x : Operand) (ho : o.op = .load 26 x)
    (b : Nat) (m : Hd) (v : Value) (hx : a.eval x = .pointer (some ⟨b, 0, none⟩)) (G : BoxM b m v w)
    (h : wpList Try.prog ops Q rest (a.put o.dst (MV m v)) w) : wpList Try.prog ops Q (o :: rest) a w :=
  wpList_load_row hgd 26 x ho b hx _ _ _ _ G Try.underlying26 rfl infoM h
set_option maxRecDepth 100000 in
set_option maxHeartbeats 1000000 in
theorem blank_any (w : World) : Calls Try.prog 10 #[] w (Gives (MV blankH (.slice none 0 0)) w) := by
  have Z1 := hide (fun W => zeros_any 16 (by omega) W)
  have Z2 := hide (fun W => zeros_any 64 (by omega) W)
  have Z3 := hide (fun W => zeros_any 128 (by omega) W)
  have E := hide (show blankH = ⟨0, 0, 0, 0, 0, 0, 0, 0, 0, 0, 0, nul 16, nul 64, nul 128⟩ from rfl)
  generalize blankH = B at *
  generalize nul 16 = z1 at *
  generalize nul 64 = z2 at *
  generalize nul 128 = z3 at *
  have G0 := hide (box_new w zeroH (.slice none 0 0))
  go_enter Try.func10, Try.ntmps10
  go_wp2_with fail
  refine (Z1.out _).mono ?_
  rintro en w1 ⟨rfl, hb1⟩
  go_wp2_with fail
  refine (Z2.out _).mono ?_
  rintro en w2 ⟨rfl, hb2⟩
  go_wp2_with fail
  refine (Z3.out _).mono ?_
  rintro en w3 ⟨rfl, hb3⟩
  have G3 := ((G0.out.step hb1).step hb2).step hb3
  go_wp2_with (refine wpList_store_box rfl (.tmp 0) (.tmp 4) rfl w.heap.size _ ⟨0, 0, 0, 0, 0, 0, 0, 0, 0, 0, 0, z1, z2, z3⟩ _ (.slice none 0 0) rfl rfl rfl G3 ?_; intro w4 G4 B4 _)
  have HB := hide (show Below w.heap.size w w4 from (((below_alloc w _).trans (hb1.mono (below_alloc w _).size)).trans ((hb2.mono (Nat.le_trans (below_alloc w _).size hb1.size)))).trans ((hb3.mono (Nat.le_trans (Nat.le_trans (below_alloc w _).size hb1.size) hb2.size)).trans (B4 _ (Nat.le_refl _))))
  refine bodyPost_ret (v := MV B (.slice none 0 0)) ((results_cell_row rfl _ _ w.heap.size _ _ _ _ rfl G4 Try.underlying26 rfl infoM).trans (by rw [E.out])) rfl ⟨rfl, HB.out⟩
theorem as8_yes (W : World) (v : Value) : (Instr.typeAssert (.iface 76 v) 20 76 true).run Try.prog W = .ok (.tuple #[v, .bool true]) W := by kernel_rfl
theorem as16_yes (W : World) (v : Value) : (Instr.typeAssert (.iface 78 v) 20 78 true).run Try.prog W = .ok (.tuple #[v, .bool true]) W := by kernel_rfl
theorem as32_yes (W : World) (v : Value) : (Instr.typeAssert (.iface 77 v) 20 77 true).run Try.prog W = .ok (.tuple #[v, .bool true]) W := by kernel_rfl
theorem asS_yes (W : World) (v : Value) : (Instr.typeAssert (.iface 79 v) 20 79 true).run Try.prog W = .ok (.tuple #[v, .bool true]) W := by kernel_rfl
theorem as16_8 (W : World) (v : Value) : (Instr.typeAssert (.iface 78 v) 20 76 true).run Try.prog W = .ok (.tuple #[.pointer none, .bool false]) W := by kernel_rfl
theorem as32_8 (W : World) (v : Value) : (Instr.typeAssert (.iface 77 v) 20 76 true).run Try.prog W = .ok (.tuple #[.pointer none, .bool false]) W := by kernel_rfl
theorem as32_16 (W : World) (v : Value) : (Instr.typeAssert (.iface 77 v) 20 78 true).run Try.prog W = .ok (.tuple #[.pointer none, .bool false]) W := by kernel_rfl
theorem asS_8 (W : World) (v : Value) : (Instr.typeAssert (.iface 79 v) 20 76 true).run Try.prog W = .ok (.tuple #[.pointer none, .bool false]) W := by kernel_rfl
theorem asS_16 (W : World) (v : Value) : (Instr.typeAssert (.iface 79 v) 20 78 true).run Try.prog W = .ok (.tuple #[.pointer none, .bool false]) W := by kernel_rfl
theorem asS_32 (W : World) (v : Value) : (Instr.typeAssert (.iface 79 v) 20 77 true).run Try.prog W = .ok (.tuple #[.pointer none, .bool false]) W := by kernel_rfl
set_option maxRecDepth 100000 in
set_option maxHeartbeats 1000000 in
theorem conv_one (w : World) (x : UInt8) : (convert 39 9 (.slice (some ⟨w.heap.size, 0, none⟩) 1 1)).run Try.prog (w.alloc (.cells #[.int .u8 (x.toNat : Int)] 5)) = .ok (St [x]) (w.alloc (.cells #[.int .u8 (x.toNat : Int)] 5)) := by
  refine run_convert_bytes_back (P := Try.prog) _ 39 9 5 ⟨w.heap.size, 0, none⟩ 1 [x] Try.underlying39 Try.underlying5 Try.underlying9 (fun j hj => ?_)
  simp at hj
  subst hj
  simp [go_sem, Addr.add]
set_option maxRecDepth 100000 in
set_option maxHeartbeats 1000000 in
theorem write_any (f : Fv) (p : Go.Addr) (w : World) (hc : w.cell? p = some f.val) : Calls Try.prog 24 #[PF f p] w (Gives (St f.bytes) w) := by
  cases f with
  | u8 x =>
    have Y := as8_yes w (.pointer (some p))
    change w.cell? p = some (.int .u8 (x.toNat : Int)) at hc
    have C := conv_one w x
    show Calls _ _ #[.iface 76 (.pointer (some p))] _ (Gives (St [x]) w)
    go_enter Try.func24, Try.ntmps24
    go_wp2
    go_ret
    exact ⟨rfl, below_alloc _ _⟩
  | u16 x =>
    have Y := as16_yes w (.pointer (some p))
    have N1 := as16_8 w (.pointer (some p))
    have P := hide (put16_any x.toNat x.toNat_lt w)
    change w.cell? p = some (.int .u16 (x.toNat : Int)) at hc
    show Calls _ _ #[.iface 78 (.pointer (some p))] _ (Gives (St (beL 2 x.toNat)) w)
    go_enter Try.func24, Try.ntmps24
    go_wp2_with fail
    refine P.out.mono ?_
    rintro e w1 ⟨rfl, hb⟩
    go_wp2
    go_ret
    exact ⟨rfl, hb⟩
  | u32 x =>
    have Y := as32_yes w (.pointer (some p))
    have N1 := as32_8 w (.pointer (some p))
    have N2 := as32_16 w (.pointer (some p))
    have P := hide (put32_any x.toNat x.toNat_lt w)
    change w.cell? p = some (.int .u32 (x.toNat : Int)) at hc
    show Calls _ _ #[.iface 77 (.pointer (some p))] _ (Gives (St (beL 4 x.toNat)) w)
    go_enter Try.func24, Try.ntmps24
    go_wp2_with fail
    refine P.out.mono ?_
    rintro e w1 ⟨rfl, hb⟩
    go_wp2
    go_ret
    exact ⟨rfl, hb⟩
  | st x =>
    have Y := asS_yes w (.pointer (some p))
    have N1 := asS_8 w (.pointer (some p))
    have N2 := asS_16 w (.pointer (some p))
    have N3 := asS_32 w (.pointer (some p))
    change w.cell? p = some (.string x) at hc
    show Calls _ _ #[.iface 79 (.pointer (some p))] _ (Gives (.string x) w)
    go_enter Try.func24, Try.ntmps24
    go_wp2
    go_ret
    exact ⟨rfl, Below.refl _ _⟩
/-- what a store into a field leaves -/
def ReadP (f : Fv) (s : ByteArray) (a : Nat) (p : Go.Addr) (w : World) (e : Ending) (w2 : World) : Prop := e = .returned (.tuple #[]) ∧ ∃ w1, Below w.heap.size w w1 ∧ w2 = w1.setCell p (f.get s a).val
set_option maxRecDepth 100000 in
set_option maxHeartbeats 1000000 in
theorem read_f (f : Fv) (s : ByteArray) (hs : s.size ≤ 65507) (a : Nat) (p : Go.Addr) (w : World) (hc : w.cell? p = some f.val) (hf : w.frozen? p = false) (ha : a + f.len ≤ s.size) :
    Calls Try.prog 54 #[PF f p, .string s, .int .i64 (a : Int)] w (ReadP f s a p w) := by
  have hm : s.size ≤ maxLen := by unfold maxLen; omega
  have h64 : I64 (a : Int) := ⟨by omega, by omega⟩
  have pl := World.block_lt_of_cell? w p hc
  cases f with
  | u8 x =>
    have Y := as8_yes w (.pointer (some p))
    change w.cell? p = some (.int .u8 (x.toNat : Int)) at hc
    have ha : a < s.size := ha
    show Calls _ _ #[.iface 76 (.pointer (some p)), _, _] _ _
    go_enter Try.func54, Try.ntmps54
    go_wp2
    refine bodyPost_end (v := .tuple #[]) (by simp [results, Try.results54, go_sem]) rfl ⟨rfl, _, Below.refl _ _, ?_⟩
    show _ = w.setCell p (Value.int .u8 (((lb s).getD a 0).toNat : Int))
    rw [List.getD_eq_getElem?_getD, List.getElem?_eq_getElem (by rw [lb_len]; exact ha)]
    rfl
  | u16 x =>
    have Y := as16_yes w (.pointer (some p))
    have N8 := as16_8 w (.pointer (some p))
    have G := hide (get16_any s hm h64 w)
    have E := hide (u16_of (getV 2 s (a : Int)) (getV_lt 2 s (a : Int)))
    generalize cutO s (a : Int) 2 = o at *
    change w.cell? p = some (.int .u16 (x.toNat : Int)) at hc
    show Calls _ _ #[.iface 78 (.pointer (some p)), _, _] _ _
    go_enter Try.func54, Try.ntmps54
    go_wp2_with fail
    refine G.out.mono ?_
    rintro e w1 ⟨rfl, rfl⟩
    go_wp2
    exact bodyPost_end (v := .tuple #[]) (by simp [results, Try.results54, go_sem]) rfl ⟨rfl, _, Below.refl _ _, by show _ = w.setCell p (Value.int .u16 ((UInt16.ofNat (getV 2 s (a : Int))).toNat : Int)); rw [E.out]⟩
  | u32 x =>
    have Y := as32_yes w (.pointer (some p))
    have N8 := as32_8 w (.pointer (some p))
    have N16 := as32_16 w (.pointer (some p))
    have G := hide (get32_any s hm h64 w)
    have E := hide (u32_of (getV 4 s (a : Int)) (getV_lt 4 s (a : Int)))
    generalize cutO s (a : Int) 4 = o at *
    change w.cell? p = some (.int .u32 (x.toNat : Int)) at hc
    show Calls _ _ #[.iface 77 (.pointer (some p)), _, _] _ _
    go_enter Try.func54, Try.ntmps54
    go_wp2_with fail
    refine G.out.mono ?_
    rintro e w1 ⟨rfl, rfl⟩
    go_wp2
    exact bodyPost_end (v := .tuple #[]) (by simp [results, Try.results54, go_sem]) rfl ⟨rfl, _, Below.refl _ _, by show _ = w.setCell p (Value.int .u32 ((UInt32.ofNat (getV 4 s (a : Int))).toNat : Int)); rw [E.out]⟩
  | st x =>
    have Y := asS_yes w (.pointer (some p))
    have N1 := asS_8 w (.pointer (some p))
    have N2 := asS_16 w (.pointer (some p))
    have N3 := asS_32 w (.pointer (some p))
    have hx : x.size ≤ 65507 := by have : a + x.size ≤ s.size := ha; omega
    have C := hide (cut_any s hm h64 (show I64 (x.size : Int) from ⟨by omega, by omega⟩) w)
    have V := hide (show cutV s (a : Int) (x.size : Int) = sub s a x.size from cut_yes (by unfold cutO; rw [decide_eq_true_eq]; have : a + x.size ≤ s.size := ha; omega))
    rw [V.out] at C
    have CL := hide (clone_str (sub s a x.size) (by rw [sub_size (n := x.size) ha]; omega) w)
    generalize cutO s (a : Int) (x.size : Int) = o at *
    change w.cell? p = some (.string x) at hc
    show Calls _ _ #[.iface 79 (.pointer (some p)), _, _] _ _
    go_enter Try.func54, Try.ntmps54
    go_wp2_with fail
    refine C.out.mono ?_
    rintro e w1 ⟨rfl, rfl⟩
    go_wp2_with fail
    refine CL.out.mono ?_
    rintro e w2 ⟨rfl, hb⟩
    have hc2 := keep_cell hb hc
    have hf2 := keep_free hb pl hf
    go_wp2
    exact bodyPost_end (v := .tuple #[]) (by simp [results, Try.results54, go_sem]) rfl ⟨rfl, _, hb, rfl⟩
end Go.Proofs.Ytmoklodaeicpgaa
