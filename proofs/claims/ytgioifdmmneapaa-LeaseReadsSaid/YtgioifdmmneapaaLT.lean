/-
  The reader of lease.Decode: contracts of fail, getByte, take, small and run: what each takes and how the reader stands behind it; nothing else that existed is changed. Conditions: the bytes are no longer than an int, the place is from 0 to 2^62.
-/
import Derived.Test.YtgioifdmmneapaaLN
import Derived.Lib.Hide
import Derived.Deep.DeepCutAuto
namespace Go.Proofs.Ytgioifdmmneapaa
open Go.RowKit Go.Joins

/-- only the blocks of S have been written, and new ones made -/
structure Fr (S : Nat → Prop) (w w' : World) : Prop where
  os : w'.os = w.os
  tape : w'.tape = w.tape
  output : w'.output = w.output
  size : w.heap.size ≤ w'.heap.size
  block : ∀ k, k < w.heap.size → ¬ S k → w'.heap[k]? = w.heap[k]?
abbrev No : Nat → Prop := fun _ => False
theorem Fr.refl (S : Nat → Prop) (w : World) : Fr S w w := ⟨rfl, rfl, rfl, Nat.le_refl _, fun _ _ _ => rfl⟩
theorem Fr.trans {S S2 : Nat → Prop} {a b c : World} (h : Fr S a b) (k : Fr S2 b c) (hs : ∀ i, i < a.heap.size → S2 i → S i) : Fr S a c :=
  ⟨k.os.trans h.os, k.tape.trans h.tape, k.output.trans h.output, Nat.le_trans h.size k.size, fun i hi hn => (k.block i (Nat.lt_of_lt_of_le hi h.size) (fun e => hn (hs i hi e))).trans (h.block i hi hn)⟩
theorem Fr.mono {S S2 : Nat → Prop} {a b : World} (h : Fr S a b) (hs : ∀ i, i < a.heap.size → S i → S2 i) : Fr S2 a b :=
  ⟨h.os, h.tape, h.output, h.size, fun i hi hn => h.block i hi (fun e => hn (hs i hi e))⟩
theorem Fr.no {S : Nat → Prop} {a b : World} (h : Fr No a b) : Fr S a b := h.mono (fun _ _ e => e.elim)
theorem Fr.andNo {S : Nat → Prop} {a b c : World} (h : Fr S a b) (k : Fr No b c) : Fr S a c := h.trans k (fun _ _ e => e.elim)
theorem Fr.grown {a b : World} {row : Option Nat} (h : a.grownBy b row) : Fr (fun k => some k = row) a b := ⟨h.os, h.tape, h.output, h.size, h.block⟩
theorem Fr.ofBelow {a b : World} (h : Below a.heap.size a b) : Fr No a b := ⟨h.os, h.tape, h.output, h.size, fun k hk _ => h.block k hk⟩
theorem Fr.toBelow {a b : World} (h : Fr No a b) : Below a.heap.size a b := ⟨h.os, h.tape, h.output, h.size, fun k hk => h.block k hk (fun e => e)⟩
theorem Fr.below {S : Nat → Prop} {a b : World} (h : Fr S a b) {B : Nat} (hB : B ≤ a.heap.size) (hS : ∀ k, S k → B ≤ k) : Below B a b :=
  ⟨h.os, h.tape, h.output, h.size, fun k hk => h.block k (Nat.lt_of_lt_of_le hk hB) (fun e => Nat.lt_irrefl k (Nat.lt_of_lt_of_le hk (hS k e)))⟩
theorem Fr.alloc (w : World) (o : Obj) : Fr No w (w.alloc o) := ⟨rfl, rfl, rfl, by simp, fun k hk _ => Below.heap_alloc w o k hk⟩
theorem Fr.drew (w : World) : Fr No w w.drew := ⟨rfl, rfl, rfl, Nat.le_refl _, fun _ _ _ => rfl⟩
theorem Fr.drewN (w : World) (n : Nat) : Fr No w (w.drewN n) := ⟨rfl, rfl, rfl, Nat.le_refl _, fun _ _ _ => rfl⟩
theorem Fr.set (w : World) (a : Go.Addr) (u : Value) : Fr (fun k => k = a.block) w (w.setCell a u) := ⟨rfl, rfl, rfl, by simp, fun k _ hn => Below.heap_setCell w a u k hn⟩
theorem lt_of_block {w : World} {b : Nat} {o : Obj} (h : w.heap[b]? = some o) : b < w.heap.size := (Array.getElem?_eq_some_iff.1 h).1
theorem Fr.keep {S : Nat → Prop} {a b : World} (h : Fr S a b) {k : Nat} {o : Obj} (hk : a.heap[k]? = some o) (hn : ¬ S k) : b.heap[k]? = some o := by
  rw [h.block k (lt_of_block hk) hn, hk]
theorem cell_at {w : World} {b : Nat} {cur : Array Value} {t : TypeId} {fz : Nat × Nat} (h : w.heap[b]? = some (.cells cur t fz)) (i : Nat) : w.cell? ⟨b, i, none⟩ = cur[i]? := by
  simp [World.cell?, h]
theorem free_at {w : World} {b : Nat} {cur : Array Value} {t : TypeId} (h : w.heap[b]? = some (.cells cur t (0, 0))) (i : Nat) : w.frozen? ⟨b, i, none⟩ = false := by
  simp [World.frozen?, h]
theorem set_block {w : World} {b : Nat} {cur : Array Value} {t : TypeId} {fz : Nat × Nat} (h : w.heap[b]? = some (.cells cur t fz)) (i : Nat) (v : Value) :
    (w.setCell ⟨b, i, none⟩ v).heap[b]? = some (.cells (cur.setIfInBounds i v) t fz) := by
  unfold World.setCell
  show (w.heap.modify b _)[b]? = _
  rw [Array.getElem?_modify, if_pos rfl, h]
  rfl
abbrev Pt (d : Nat) : Value := .pointer (some ⟨d, 0, none⟩)
/-- the reader in memory -/
def RdAt (w : World) (g : Nat) (s : ByteArray) (a e : Int) : Prop := w.heap[g]? = some (.cells #[.string s, .int .i64 a, .int .i64 e] 72 (0, 0))
/-- what a call on the reader leaves -/
def Took (w : World) (g : Nat) (s : ByteArray) (a e : Int) (v : Value) (en : Ending) (w' : World) : Prop := en = .returned v ∧ Fr (fun k => k = g) w w' ∧ RdAt w' g s a e
def errS (e : Int) (ok : Bool) (x : Int) : Int := if ok = true then e else if e = 0 then x else e
theorem RdAt.no {w w' : World} {g : Nat} {s : ByteArray} {a e : Int} (h : RdAt w g s a e) (F : Fr No w w') : RdAt w' g s a e := F.keep h (fun e => e)
theorem fr_set2 {w : World} {g i : Nat} {u : Value} : Fr (fun k => k = g) w (w.setCell ⟨g, i, none⟩ u) := Fr.set w ⟨g, i, none⟩ u
theorem Fr.same {g : Nat} {a b c : World} (h : Fr (fun k => k = g) a b) (k : Fr (fun k => k = g) b c) : Fr (fun k => k = g) a c := h.trans k (fun _ _ e => e)

/-- a world in which nothing was written, with the reader as it stood -/
def RC (w : World) (g : Nat) (s : ByteArray) (a e : Int) (W : World) : Prop := Fr No w W ∧ RdAt W g s a e
theorem RC.step {w : World} {g : Nat} {s : ByteArray} {a e : Int} {W W2 : World} (h : RC w g s a e W) (hb : Below W.heap.size W W2) : RC w g s a e W2 := ⟨h.1.andNo (Fr.ofBelow hb), h.2.no (Fr.ofBelow hb)⟩

set_option maxRecDepth 100000 in
theorem fail_any {w : World} {g : Nat} {s : ByteArray} {a e : Int} (h : RdAt w g s a e) (x : Int) :
    Calls Try.prog 48 #[Pt g, .int .i64 x] w (Took w g s a (errS e false x) (.tuple #[])) := by
  have H := hide h
  have k2 := cell_at h 2
  have f2 := free_at h 2
  simp at k2
  clear h
  by_cases he : e = 0
  · subst he
    go_enter Try.func48, Try.ntmps48
    go_wp2
    go_end0
    refine ⟨rfl, fr_set2, ?_⟩
    show _ = _
    rw [set_block H.out 2]; rfl
  · have K := hide (show errS e false x = e by unfold errS; rw [if_neg (by decide), if_neg he])
    go_enter Try.func48, Try.ntmps48
    go_wp2
    go_end0
    exact ⟨rfl, Fr.refl _ _, by rw [K.out]; exact H.out⟩

theorem getV_one {s : ByteArray} {a : Int} (h : cutO s a 1 = true) : ∃ h0 : 0 < (cutV s a 1).size, (getV 1 s a : Nat) = ((cutV s a 1)[0]'h0).toNat := by
  have hl : (cutV s a 1).size = 1 := cut_len (n := 1) h
  refine ⟨by omega, ?_⟩
  unfold getV
  have e : (cutV s a (1 : Nat)).data.toList = [(cutV s a 1)[0]'(by omega)] := by
    apply List.ext_getElem?
    intro i
    match i with
    | 0 => simp [ByteArray.getElem_eq_getElem_data]
    | i + 1 => simp; omega
  rw [e]
  simp [beV, beF]
set_option maxRecDepth 100000 in
theorem getByte_any (s : ByteArray) (hs : s.size ≤ maxLen) {a : Int} (ha : I64 a) (w : World) : Calls Try.prog 96 #[.string s, .int .i64 a] w (Same (.tuple #[.int .u8 (getV 1 s a : Nat), .bool (cutO s a 1)]) w) := by
  have C := hide (fun W => cut_any s hs ha (show I64 1 by unfold I64; omega) W)
  cases h : cutO s a 1 with
  | false =>
    have V := hide (show getV 1 s a = 0 from getV_no h)
    rw [h] at C
    clear h
    generalize cutV s a 1 = p at *
    go_enter Try.func96, Try.ntmps96
    go_wp2_with fail
    refine (C.out _).mono ?_
    rintro e w' ⟨rfl, rfl⟩
    go_wp2
    go_ret2
    exact ⟨congrArg Ending.returned (tup2 (by rw [V.out]; rfl) rfl), rfl⟩
  | true =>
    have hl := cut_len (n := 1) h
    obtain ⟨h0, hv⟩ := getV_one h
    rw [h] at C
    rw [hv]
    clear h hv
    generalize cutV s a 1 = p at *
    have hl1 : p.size = 1 := hl
    have hl2 : (0 : Int) < (p.size : Int) := by omega
    have hl3 : (p.size : Int) = 1 := by omega
    clear hl
    go_enter Try.func96, Try.ntmps96
    go_wp2_with fail
    refine (C.out _).mono ?_
    rintro e w' ⟨rfl, rfl⟩
    go_wp2
    go_ret2
    exact ⟨rfl, rfl⟩

set_option maxRecDepth 100000 in
set_option maxHeartbeats 1000000 in
theorem take_byte {w : World} {g : Nat} {s : ByteArray} {a e : Int} (h : RdAt w g s a e) (hs : s.size ≤ maxLen) (h0 : 0 ≤ a) (h1 : a ≤ 4611686018427387904) :
    Calls Try.prog 95 #[Pt g, .int .i64 1, FnV 96] w (Took w g s (a + 1) (errS e (cutO s a 1) 3) (.int .u8 (getV 1 s a : Nat))) := by
  have G := hide (fun W => getByte_any s hs (show I64 a by unfold I64; omega) W)
  generalize getV 1 s a = v at *
  have W1 : IntKind.i64.wrap (a + 1) = a + 1 := IntWalk.i64_in _ ⟨by omega, by omega⟩
  have H := hide h
  have k0 := cell_at h 0
  have k1 := cell_at h 1
  have k2 := cell_at h 2
  have f1 := free_at h 1
  simp at k0 k1 k2
  clear h
  cases ho : cutO s a 1 with
  | false =>
    rw [ho] at G
    clear ho
    have FL := hide (fun (W : World) (hW : RdAt W g s a e) => fail_any hW 3)
    clear k0 k1 k2 f1
    go_enter Try.func95, Try.ntmps95
    go_wp2_with fail
    refine wp_region_rel (RC w g s a e) [some 10, some 11, some 12, some 13, some 14, some 15, some 16, some 17, some 18, some 19, some 9, some 20, some 21, some 7, some 8] [fun yy _ => yy = FnV 96, fun yy _ => yy = Pt g, fun yy _ => yy = Pt g, fun yy _ => yy = Pt g, fun yy _ => yy = .string s, fun yy _ => yy = Pt g, fun yy _ => yy = Pt g, fun yy _ => yy = .pointer (some ⟨g, 1, none⟩), fun yy _ => yy = .int .i64 a, fun yy _ => yy = .tuple #[.int .u8 (v : Nat), .bool false], fun yy _ => yy = .tuple #[.int .u8 (v : Nat), .bool false], fun yy _ => yy = .int .u8 (v : Nat), fun yy _ => yy = .bool false, fun yy _ => yy = .int .u8 (v : Nat), fun yy _ => yy = .bool false] 35 (by kernel_rfl) (by kernel_rfl) rfl rfl (⟨(Fr.refl _ _).andNo (Fr.drew _), H.out.no (Fr.drew _)⟩) ?_ ?_
    · refine ⟨⟨fun _ _ _ h _ => h, fun a' W K hC hd hf hK => ?_⟩, ⟨fun _ _ _ h _ => h, fun a' W K hC hd hf hK => ?_⟩, ⟨fun _ _ _ h _ => h, fun a' W K hC hd hf hK => ?_⟩, ⟨fun _ _ _ h _ => h, fun a' W K hC hd hf hK => ?_⟩, ⟨fun _ _ _ h _ => h, fun a' W K hC hd hf hK => ?_⟩, ⟨fun _ _ _ h _ => h, fun a' W K hC hd hf hK => ?_⟩, ⟨fun _ _ _ h _ => h, fun a' W K hC hd hf hK => ?_⟩, ⟨fun _ _ _ h _ => h, fun a' W K hC hd hf hK => ?_⟩, ⟨fun _ _ _ h _ => h, fun a' W K hC hd hf hK => ?_⟩, ⟨fun _ _ _ h _ => h, fun a' W K hC hd hf hK => ?_⟩, ⟨fun _ _ _ h _ => h, fun a' W K hC hd hf hK => ?_⟩, ⟨fun _ _ _ h _ => h, fun a' W K hC hd hf hK => ?_⟩, ⟨fun _ _ _ h _ => h, fun a' W K hC hd hf hK => ?_⟩, ⟨fun _ _ _ h _ => h, fun a' W K hC hd hf hK => ?_⟩, ⟨fun _ _ _ h _ => h, fun a' W K hC hd hf hK => ?_⟩, trivial⟩
      · have f2 : a'.tmps[2]?.getD undef = FnV 96 := (hf.out 2 (by kernel_rfl)).trans (by simp)
        go_simp
        exact hK.out _ _ hC (Below.refl _ _) rfl
      · have f0 : a'.tmps[0]?.getD undef = Pt g := (hf.out 0 (by kernel_rfl)).trans (by simp)
        go_simp
        exact hK.out _ _ hC (Below.refl _ _) rfl
      · have d11 : a'.tmps[11]?.getD undef = Pt g := hd.out 1 11 (by kernel_rfl) rfl
        go_simp
        exact hK.out _ _ hC (Below.refl _ _) rfl
      · have d12 : a'.tmps[12]?.getD undef = Pt g := hd.out 2 12 (by kernel_rfl) rfl
        go_simp
        exact hK.out _ _ hC (Below.refl _ _) rfl
      · have d13 : a'.tmps[13]?.getD undef = Pt g := hd.out 3 13 (by kernel_rfl) rfl
        have r0 := cell_at hC.2 0
        have r1 := cell_at hC.2 1
        simp at r0 r1
        go_simp
        exact hK.out _ _ hC (Below.refl _ _) rfl
      · have f0 : a'.tmps[0]?.getD undef = Pt g := (hf.out 0 (by kernel_rfl)).trans (by simp)
        go_simp
        exact hK.out _ _ hC (Below.refl _ _) rfl
      · have d15 : a'.tmps[15]?.getD undef = Pt g := hd.out 5 15 (by kernel_rfl) rfl
        go_simp
        exact hK.out _ _ hC (Below.refl _ _) rfl
      · have d16 : a'.tmps[16]?.getD undef = Pt g := hd.out 6 16 (by kernel_rfl) rfl
        go_simp
        exact hK.out _ _ hC (Below.refl _ _) rfl
      · have d17 : a'.tmps[17]?.getD undef = .pointer (some ⟨g, 1, none⟩) := hd.out 7 17 (by kernel_rfl) rfl
        have r0 := cell_at hC.2 0
        have r1 := cell_at hC.2 1
        simp at r0 r1
        go_simp
        exact hK.out _ _ hC (Below.refl _ _) rfl
      · have d10 : a'.tmps[10]?.getD undef = FnV 96 := hd.out 0 10 (by kernel_rfl) rfl
        have d14 : a'.tmps[14]?.getD undef = .string s := hd.out 4 14 (by kernel_rfl) rfl
        have d18 : a'.tmps[18]?.getD undef = .int .i64 a := hd.out 8 18 (by kernel_rfl) rfl
        go_simp; go_at_call 96; refine (G.out _).mono ?_; rintro en w2 ⟨rfl, rfl⟩; exact hK.out _ _ hC (Below.refl _ _) rfl
      · have d19 : a'.tmps[19]?.getD undef = .tuple #[.int .u8 (v : Nat), .bool false] := hd.out 9 19 (by kernel_rfl) rfl
        go_simp
        exact hK.out _ _ hC (Below.refl _ _) rfl
      · have d9 : a'.tmps[9]?.getD undef = .tuple #[.int .u8 (v : Nat), .bool false] := hd.out 10 9 (by kernel_rfl) rfl
        go_simp
        exact hK.out _ _ hC (Below.refl _ _) rfl
      · have d9 : a'.tmps[9]?.getD undef = .tuple #[.int .u8 (v : Nat), .bool false] := hd.out 10 9 (by kernel_rfl) rfl
        go_simp
        exact hK.out _ _ hC (Below.refl _ _) rfl
      · have d20 : a'.tmps[20]?.getD undef = .int .u8 (v : Nat) := hd.out 11 20 (by kernel_rfl) rfl
        go_simp
        exact hK.out _ _ hC (Below.refl _ _) rfl
      · have d21 : a'.tmps[21]?.getD undef = .bool false := hd.out 12 21 (by kernel_rfl) rfl
        go_simp
        exact hK.out _ _ hC (Below.refl _ _) rfl
    · intro vs wr hC hR
      have q0 : vs 0 = FnV 96 := hR.out 0 (by decide)
      have q1 : vs 1 = Pt g := hR.out 1 (by decide)
      have q2 : vs 2 = Pt g := hR.out 2 (by decide)
      have q3 : vs 3 = Pt g := hR.out 3 (by decide)
      have q4 : vs 4 = .string s := hR.out 4 (by decide)
      have q5 : vs 5 = Pt g := hR.out 5 (by decide)
      have q6 : vs 6 = Pt g := hR.out 6 (by decide)
      have q7 : vs 7 = .pointer (some ⟨g, 1, none⟩) := hR.out 7 (by decide)
      have q8 : vs 8 = .int .i64 a := hR.out 8 (by decide)
      have q9 : vs 9 = .tuple #[.int .u8 (v : Nat), .bool false] := hR.out 9 (by decide)
      have q10 : vs 10 = .tuple #[.int .u8 (v : Nat), .bool false] := hR.out 10 (by decide)
      have q11 : vs 11 = .int .u8 (v : Nat) := hR.out 11 (by decide)
      have q12 : vs 12 = .bool false := hR.out 12 (by decide)
      have q13 : vs 13 = .int .u8 (v : Nat) := hR.out 13 (by decide)
      have q14 : vs 14 = .bool false := hR.out 14 (by decide)
      simp only [fillF, Act.put, List.setIfInBounds_toArray, List.set_cons_zero, List.set_cons_succ, Nat.reduceAdd, q0, q1, q2, q3, q4, q5, q6, q7, q8, q9, q10, q11, q12, q13, q14]
      clear hR q0 q1 q2 q3 q4 q5 q6 q7 q8 q9 q10 q11 q12 q13 q14
      obtain ⟨F1, H1⟩ := hC
      go_wp2_with fail
      refine (FL.out _ H1).mono ?_
      rintro en w2 ⟨rfl, F2, H2⟩
      have F3 := (F1.no (S := fun k => k = g)).same F2
      have H3 := hide H2
      have k0 := cell_at H2 0
      have k1 := cell_at H2 1
      have f1 := free_at H2 1
      simp at k0 k1
      clear H2
      go_wp2
      go_ret
      refine ⟨rfl, F3.same fr_set2, ?_⟩
      show _ = _
      rw [set_block H3.out 1]; rfl
  | true =>
    rw [ho] at G
    clear ho
    clear k0 k1 k2 f1
    go_enter Try.func95, Try.ntmps95
    go_wp2_with fail
    refine wp_region_rel (RC w g s a e) [some 10, some 11, some 12, some 13, some 14, some 15, some 16, some 17, some 18, some 19, some 9, some 20, some 21, some 7, some 8] [fun yy _ => yy = FnV 96, fun yy _ => yy = Pt g, fun yy _ => yy = Pt g, fun yy _ => yy = Pt g, fun yy _ => yy = .string s, fun yy _ => yy = Pt g, fun yy _ => yy = Pt g, fun yy _ => yy = .pointer (some ⟨g, 1, none⟩), fun yy _ => yy = .int .i64 a, fun yy _ => yy = .tuple #[.int .u8 (v : Nat), .bool true], fun yy _ => yy = .tuple #[.int .u8 (v : Nat), .bool true], fun yy _ => yy = .int .u8 (v : Nat), fun yy _ => yy = .bool true, fun yy _ => yy = .int .u8 (v : Nat), fun yy _ => yy = .bool true] 35 (by kernel_rfl) (by kernel_rfl) rfl rfl (⟨(Fr.refl _ _).andNo (Fr.drew _), H.out.no (Fr.drew _)⟩) ?_ ?_
    · refine ⟨⟨fun _ _ _ h _ => h, fun a' W K hC hd hf hK => ?_⟩, ⟨fun _ _ _ h _ => h, fun a' W K hC hd hf hK => ?_⟩, ⟨fun _ _ _ h _ => h, fun a' W K hC hd hf hK => ?_⟩, ⟨fun _ _ _ h _ => h, fun a' W K hC hd hf hK => ?_⟩, ⟨fun _ _ _ h _ => h, fun a' W K hC hd hf hK => ?_⟩, ⟨fun _ _ _ h _ => h, fun a' W K hC hd hf hK => ?_⟩, ⟨fun _ _ _ h _ => h, fun a' W K hC hd hf hK => ?_⟩, ⟨fun _ _ _ h _ => h, fun a' W K hC hd hf hK => ?_⟩, ⟨fun _ _ _ h _ => h, fun a' W K hC hd hf hK => ?_⟩, ⟨fun _ _ _ h _ => h, fun a' W K hC hd hf hK => ?_⟩, ⟨fun _ _ _ h _ => h, fun a' W K hC hd hf hK => ?_⟩, ⟨fun _ _ _ h _ => h, fun a' W K hC hd hf hK => ?_⟩, ⟨fun _ _ _ h _ => h, fun a' W K hC hd hf hK => ?_⟩, ⟨fun _ _ _ h _ => h, fun a' W K hC hd hf hK => ?_⟩, ⟨fun _ _ _ h _ => h, fun a' W K hC hd hf hK => ?_⟩, trivial⟩
      · have f2 : a'.tmps[2]?.getD undef = FnV 96 := (hf.out 2 (by kernel_rfl)).trans (by simp)
        go_simp
        exact hK.out _ _ hC (Below.refl _ _) rfl
      · have f0 : a'.tmps[0]?.getD undef = Pt g := (hf.out 0 (by kernel_rfl)).trans (by simp)
        go_simp
        exact hK.out _ _ hC (Below.refl _ _) rfl
      · have d11 : a'.tmps[11]?.getD undef = Pt g := hd.out 1 11 (by kernel_rfl) rfl
        go_simp
        exact hK.out _ _ hC (Below.refl _ _) rfl
      · have d12 : a'.tmps[12]?.getD undef = Pt g := hd.out 2 12 (by kernel_rfl) rfl
        go_simp
        exact hK.out _ _ hC (Below.refl _ _) rfl
      · have d13 : a'.tmps[13]?.getD undef = Pt g := hd.out 3 13 (by kernel_rfl) rfl
        have r0 := cell_at hC.2 0
        have r1 := cell_at hC.2 1
        simp at r0 r1
        go_simp
        exact hK.out _ _ hC (Below.refl _ _) rfl
      · have f0 : a'.tmps[0]?.getD undef = Pt g := (hf.out 0 (by kernel_rfl)).trans (by simp)
        go_simp
        exact hK.out _ _ hC (Below.refl _ _) rfl
      · have d15 : a'.tmps[15]?.getD undef = Pt g := hd.out 5 15 (by kernel_rfl) rfl
        go_simp
        exact hK.out _ _ hC (Below.refl _ _) rfl
      · have d16 : a'.tmps[16]?.getD undef = Pt g := hd.out 6 16 (by kernel_rfl) rfl
        go_simp
        exact hK.out _ _ hC (Below.refl _ _) rfl
      · have d17 : a'.tmps[17]?.getD undef = .pointer (some ⟨g, 1, none⟩) := hd.out 7 17 (by kernel_rfl) rfl
        have r0 := cell_at hC.2 0
        have r1 := cell_at hC.2 1
        simp at r0 r1
        go_simp
        exact hK.out _ _ hC (Below.refl _ _) rfl
      · have d10 : a'.tmps[10]?.getD undef = FnV 96 := hd.out 0 10 (by kernel_rfl) rfl
        have d14 : a'.tmps[14]?.getD undef = .string s := hd.out 4 14 (by kernel_rfl) rfl
        have d18 : a'.tmps[18]?.getD undef = .int .i64 a := hd.out 8 18 (by kernel_rfl) rfl
        go_simp; go_at_call 96; refine (G.out _).mono ?_; rintro en w2 ⟨rfl, rfl⟩; exact hK.out _ _ hC (Below.refl _ _) rfl
      · have d19 : a'.tmps[19]?.getD undef = .tuple #[.int .u8 (v : Nat), .bool true] := hd.out 9 19 (by kernel_rfl) rfl
        go_simp
        exact hK.out _ _ hC (Below.refl _ _) rfl
      · have d9 : a'.tmps[9]?.getD undef = .tuple #[.int .u8 (v : Nat), .bool true] := hd.out 10 9 (by kernel_rfl) rfl
        go_simp
        exact hK.out _ _ hC (Below.refl _ _) rfl
      · have d9 : a'.tmps[9]?.getD undef = .tuple #[.int .u8 (v : Nat), .bool true] := hd.out 10 9 (by kernel_rfl) rfl
        go_simp
        exact hK.out _ _ hC (Below.refl _ _) rfl
      · have d20 : a'.tmps[20]?.getD undef = .int .u8 (v : Nat) := hd.out 11 20 (by kernel_rfl) rfl
        go_simp
        exact hK.out _ _ hC (Below.refl _ _) rfl
      · have d21 : a'.tmps[21]?.getD undef = .bool true := hd.out 12 21 (by kernel_rfl) rfl
        go_simp
        exact hK.out _ _ hC (Below.refl _ _) rfl
    · intro vs wr hC hR
      have q0 : vs 0 = FnV 96 := hR.out 0 (by decide)
      have q1 : vs 1 = Pt g := hR.out 1 (by decide)
      have q2 : vs 2 = Pt g := hR.out 2 (by decide)
      have q3 : vs 3 = Pt g := hR.out 3 (by decide)
      have q4 : vs 4 = .string s := hR.out 4 (by decide)
      have q5 : vs 5 = Pt g := hR.out 5 (by decide)
      have q6 : vs 6 = Pt g := hR.out 6 (by decide)
      have q7 : vs 7 = .pointer (some ⟨g, 1, none⟩) := hR.out 7 (by decide)
      have q8 : vs 8 = .int .i64 a := hR.out 8 (by decide)
      have q9 : vs 9 = .tuple #[.int .u8 (v : Nat), .bool true] := hR.out 9 (by decide)
      have q10 : vs 10 = .tuple #[.int .u8 (v : Nat), .bool true] := hR.out 10 (by decide)
      have q11 : vs 11 = .int .u8 (v : Nat) := hR.out 11 (by decide)
      have q12 : vs 12 = .bool true := hR.out 12 (by decide)
      have q13 : vs 13 = .int .u8 (v : Nat) := hR.out 13 (by decide)
      have q14 : vs 14 = .bool true := hR.out 14 (by decide)
      simp only [fillF, Act.put, List.setIfInBounds_toArray, List.set_cons_zero, List.set_cons_succ, Nat.reduceAdd, q0, q1, q2, q3, q4, q5, q6, q7, q8, q9, q10, q11, q12, q13, q14]
      clear hR q0 q1 q2 q3 q4 q5 q6 q7 q8 q9 q10 q11 q12 q13 q14
      obtain ⟨F1, H1⟩ := hC
      have H3 := hide H1
      have k0 := cell_at H1 0
      have k1 := cell_at H1 1
      have f1 := free_at H1 1
      simp at k0 k1
      clear H1
      go_wp2
      go_ret
      refine ⟨rfl, (F1.no (S := fun k => k = g)).same fr_set2, ?_⟩
      show _ = _
      rw [set_block H3.out 1]; rfl

set_option maxRecDepth 100000 in
set_option maxHeartbeats 1000000 in
theorem take_uint16 {w : World} {g : Nat} {s : ByteArray} {a e : Int} (h : RdAt w g s a e) (hs : s.size ≤ maxLen) (h0 : 0 ≤ a) (h1 : a ≤ 4611686018427387904) :
    Calls Try.prog 45 #[Pt g, .int .i64 2, FnV 46] w (Took w g s (a + 2) (errS e (cutO s a 2) 3) (.int .u16 (getV 2 s a : Nat))) := by
  have G := hide (fun W => get16_any s hs (show I64 a by unfold I64; omega) W)
  generalize getV 2 s a = v at *
  have W1 : IntKind.i64.wrap (a + 2) = a + 2 := IntWalk.i64_in _ ⟨by omega, by omega⟩
  have H := hide h
  have k0 := cell_at h 0
  have k1 := cell_at h 1
  have k2 := cell_at h 2
  have f1 := free_at h 1
  simp at k0 k1 k2
  clear h
  cases ho : cutO s a 2 with
  | false =>
    rw [ho] at G
    clear ho
    have FL := hide (fun (W : World) (hW : RdAt W g s a e) => fail_any hW 3)
    clear k0 k1 k2 f1
    go_enter Try.func45, Try.ntmps45
    go_wp2_with fail
    refine wp_region_rel (RC w g s a e) [some 10, some 11, some 12, some 13, some 14, some 15, some 16, some 17, some 18, some 19, some 9, some 20, some 21, some 7, some 8] [fun yy _ => yy = FnV 46, fun yy _ => yy = Pt g, fun yy _ => yy = Pt g, fun yy _ => yy = Pt g, fun yy _ => yy = .string s, fun yy _ => yy = Pt g, fun yy _ => yy = Pt g, fun yy _ => yy = .pointer (some ⟨g, 1, none⟩), fun yy _ => yy = .int .i64 a, fun yy _ => yy = .tuple #[.int .u16 (v : Nat), .bool false], fun yy _ => yy = .tuple #[.int .u16 (v : Nat), .bool false], fun yy _ => yy = .int .u16 (v : Nat), fun yy _ => yy = .bool false, fun yy _ => yy = .int .u16 (v : Nat), fun yy _ => yy = .bool false] 35 (by kernel_rfl) (by kernel_rfl) rfl rfl (⟨(Fr.refl _ _).andNo (Fr.drew _), H.out.no (Fr.drew _)⟩) ?_ ?_
    · refine ⟨⟨fun _ _ _ h _ => h, fun a' W K hC hd hf hK => ?_⟩, ⟨fun _ _ _ h _ => h, fun a' W K hC hd hf hK => ?_⟩, ⟨fun _ _ _ h _ => h, fun a' W K hC hd hf hK => ?_⟩, ⟨fun _ _ _ h _ => h, fun a' W K hC hd hf hK => ?_⟩, ⟨fun _ _ _ h _ => h, fun a' W K hC hd hf hK => ?_⟩, ⟨fun _ _ _ h _ => h, fun a' W K hC hd hf hK => ?_⟩, ⟨fun _ _ _ h _ => h, fun a' W K hC hd hf hK => ?_⟩, ⟨fun _ _ _ h _ => h, fun a' W K hC hd hf hK => ?_⟩, ⟨fun _ _ _ h _ => h, fun a' W K hC hd hf hK => ?_⟩, ⟨fun _ _ _ h _ => h, fun a' W K hC hd hf hK => ?_⟩, ⟨fun _ _ _ h _ => h, fun a' W K hC hd hf hK => ?_⟩, ⟨fun _ _ _ h _ => h, fun a' W K hC hd hf hK => ?_⟩, ⟨fun _ _ _ h _ => h, fun a' W K hC hd hf hK => ?_⟩, ⟨fun _ _ _ h _ => h, fun a' W K hC hd hf hK => ?_⟩, ⟨fun _ _ _ h _ => h, fun a' W K hC hd hf hK => ?_⟩, trivial⟩
      · have f2 : a'.tmps[2]?.getD undef = FnV 46 := (hf.out 2 (by kernel_rfl)).trans (by simp)
        go_simp
        exact hK.out _ _ hC (Below.refl _ _) rfl
      · have f0 : a'.tmps[0]?.getD undef = Pt g := (hf.out 0 (by kernel_rfl)).trans (by simp)
        go_simp
        exact hK.out _ _ hC (Below.refl _ _) rfl
      · have d11 : a'.tmps[11]?.getD undef = Pt g := hd.out 1 11 (by kernel_rfl) rfl
        go_simp
        exact hK.out _ _ hC (Below.refl _ _) rfl
      · have d12 : a'.tmps[12]?.getD undef = Pt g := hd.out 2 12 (by kernel_rfl) rfl
        go_simp
        exact hK.out _ _ hC (Below.refl _ _) rfl
      · have d13 : a'.tmps[13]?.getD undef = Pt g := hd.out 3 13 (by kernel_rfl) rfl
        have r0 := cell_at hC.2 0
        have r1 := cell_at hC.2 1
        simp at r0 r1
        go_simp
        exact hK.out _ _ hC (Below.refl _ _) rfl
      · have f0 : a'.tmps[0]?.getD undef = Pt g := (hf.out 0 (by kernel_rfl)).trans (by simp)
        go_simp
        exact hK.out _ _ hC (Below.refl _ _) rfl
      · have d15 : a'.tmps[15]?.getD undef = Pt g := hd.out 5 15 (by kernel_rfl) rfl
        go_simp
        exact hK.out _ _ hC (Below.refl _ _) rfl
      · have d16 : a'.tmps[16]?.getD undef = Pt g := hd.out 6 16 (by kernel_rfl) rfl
        go_simp
        exact hK.out _ _ hC (Below.refl _ _) rfl
      · have d17 : a'.tmps[17]?.getD undef = .pointer (some ⟨g, 1, none⟩) := hd.out 7 17 (by kernel_rfl) rfl
        have r0 := cell_at hC.2 0
        have r1 := cell_at hC.2 1
        simp at r0 r1
        go_simp
        exact hK.out _ _ hC (Below.refl _ _) rfl
      · have d10 : a'.tmps[10]?.getD undef = FnV 46 := hd.out 0 10 (by kernel_rfl) rfl
        have d14 : a'.tmps[14]?.getD undef = .string s := hd.out 4 14 (by kernel_rfl) rfl
        have d18 : a'.tmps[18]?.getD undef = .int .i64 a := hd.out 8 18 (by kernel_rfl) rfl
        go_simp; go_at_call 46; refine (G.out _).mono ?_; rintro en w2 ⟨rfl, rfl⟩; exact hK.out _ _ hC (Below.refl _ _) rfl
      · have d19 : a'.tmps[19]?.getD undef = .tuple #[.int .u16 (v : Nat), .bool false] := hd.out 9 19 (by kernel_rfl) rfl
        go_simp
        exact hK.out _ _ hC (Below.refl _ _) rfl
      · have d9 : a'.tmps[9]?.getD undef = .tuple #[.int .u16 (v : Nat), .bool false] := hd.out 10 9 (by kernel_rfl) rfl
        go_simp
        exact hK.out _ _ hC (Below.refl _ _) rfl
      · have d9 : a'.tmps[9]?.getD undef = .tuple #[.int .u16 (v : Nat), .bool false] := hd.out 10 9 (by kernel_rfl) rfl
        go_simp
        exact hK.out _ _ hC (Below.refl _ _) rfl
      · have d20 : a'.tmps[20]?.getD undef = .int .u16 (v : Nat) := hd.out 11 20 (by kernel_rfl) rfl
        go_simp
        exact hK.out _ _ hC (Below.refl _ _) rfl
      · have d21 : a'.tmps[21]?.getD undef = .bool false := hd.out 12 21 (by kernel_rfl) rfl
        go_simp
        exact hK.out _ _ hC (Below.refl _ _) rfl
    · intro vs wr hC hR
      have q0 : vs 0 = FnV 46 := hR.out 0 (by decide)
      have q1 : vs 1 = Pt g := hR.out 1 (by decide)
      have q2 : vs 2 = Pt g := hR.out 2 (by decide)
      have q3 : vs 3 = Pt g := hR.out 3 (by decide)
      have q4 : vs 4 = .string s := hR.out 4 (by decide)
      have q5 : vs 5 = Pt g := hR.out 5 (by decide)
      have q6 : vs 6 = Pt g := hR.out 6 (by decide)
      have q7 : vs 7 = .pointer (some ⟨g, 1, none⟩) := hR.out 7 (by decide)
      have q8 : vs 8 = .int .i64 a := hR.out 8 (by decide)
      have q9 : vs 9 = .tuple #[.int .u16 (v : Nat), .bool false] := hR.out 9 (by decide)
      have q10 : vs 10 = .tuple #[.int .u16 (v : Nat), .bool false] := hR.out 10 (by decide)
      have q11 : vs 11 = .int .u16 (v : Nat) := hR.out 11 (by decide)
      have q12 : vs 12 = .bool false := hR.out 12 (by decide)
      have q13 : vs 13 = .int .u16 (v : Nat) := hR.out 13 (by decide)
      have q14 : vs 14 = .bool false := hR.out 14 (by decide)
      simp only [fillF, Act.put, List.setIfInBounds_toArray, List.set_cons_zero, List.set_cons_succ, Nat.reduceAdd, q0, q1, q2, q3, q4, q5, q6, q7, q8, q9, q10, q11, q12, q13, q14]
      clear hR q0 q1 q2 q3 q4 q5 q6 q7 q8 q9 q10 q11 q12 q13 q14
      obtain ⟨F1, H1⟩ := hC
      go_wp2_with fail
      refine (FL.out _ H1).mono ?_
      rintro en w2 ⟨rfl, F2, H2⟩
      have F3 := (F1.no (S := fun k => k = g)).same F2
      have H3 := hide H2
      have k0 := cell_at H2 0
      have k1 := cell_at H2 1
      have f1 := free_at H2 1
      simp at k0 k1
      clear H2
      go_wp2
      go_ret
      refine ⟨rfl, F3.same fr_set2, ?_⟩
      show _ = _
      rw [set_block H3.out 1]; rfl
  | true =>
    rw [ho] at G
    clear ho
    clear k0 k1 k2 f1
    go_enter Try.func45, Try.ntmps45
    go_wp2_with fail
    refine wp_region_rel (RC w g s a e) [some 10, some 11, some 12, some 13, some 14, some 15, some 16, some 17, some 18, some 19, some 9, some 20, some 21, some 7, some 8] [fun yy _ => yy = FnV 46, fun yy _ => yy = Pt g, fun yy _ => yy = Pt g, fun yy _ => yy = Pt g, fun yy _ => yy = .string s, fun yy _ => yy = Pt g, fun yy _ => yy = Pt g, fun yy _ => yy = .pointer (some ⟨g, 1, none⟩), fun yy _ => yy = .int .i64 a, fun yy _ => yy = .tuple #[.int .u16 (v : Nat), .bool true], fun yy _ => yy = .tuple #[.int .u16 (v : Nat), .bool true], fun yy _ => yy = .int .u16 (v : Nat), fun yy _ => yy = .bool true, fun yy _ => yy = .int .u16 (v : Nat), fun yy _ => yy = .bool true] 35 (by kernel_rfl) (by kernel_rfl) rfl rfl (⟨(Fr.refl _ _).andNo (Fr.drew _), H.out.no (Fr.drew _)⟩) ?_ ?_
    · refine ⟨⟨fun _ _ _ h _ => h, fun a' W K hC hd hf hK => ?_⟩, ⟨fun _ _ _ h _ => h, fun a' W K hC hd hf hK => ?_⟩, ⟨fun _ _ _ h _ => h, fun a' W K hC hd hf hK => ?_⟩, ⟨fun _ _ _ h _ => h, fun a' W K hC hd hf hK => ?_⟩, ⟨fun _ _ _ h _ => h, fun a' W K hC hd hf hK => ?_⟩, ⟨fun _ _ _ h _ => h, fun a' W K hC hd hf hK => ?_⟩, ⟨fun _ _ _ h _ => h, fun a' W K hC hd hf hK => ?_⟩, ⟨fun _ _ _ h _ => h, fun a' W K hC hd hf hK => ?_⟩, ⟨fun _ _ _ h _ => h, fun a' W K hC hd hf hK => ?_⟩, ⟨fun _ _ _ h _ => h, fun a' W K hC hd hf hK => ?_⟩, ⟨fun _ _ _ h _ => h, fun a' W K hC hd hf hK => ?_⟩, ⟨fun _ _ _ h _ => h, fun a' W K hC hd hf hK => ?_⟩, ⟨fun _ _ _ h _ => h, fun a' W K hC hd hf hK => ?_⟩, ⟨fun _ _ _ h _ => h, fun a' W K hC hd hf hK => ?_⟩, ⟨fun _ _ _ h _ => h, fun a' W K hC hd hf hK => ?_⟩, trivial⟩
      · have f2 : a'.tmps[2]?.getD undef = FnV 46 := (hf.out 2 (by kernel_rfl)).trans (by simp)
        go_simp
        exact hK.out _ _ hC (Below.refl _ _) rfl
      · have f0 : a'.tmps[0]?.getD undef = Pt g := (hf.out 0 (by kernel_rfl)).trans (by simp)
        go_simp
        exact hK.out _ _ hC (Below.refl _ _) rfl
      · have d11 : a'.tmps[11]?.getD undef = Pt g := hd.out 1 11 (by kernel_rfl) rfl
        go_simp
        exact hK.out _ _ hC (Below.refl _ _) rfl
      · have d12 : a'.tmps[12]?.getD undef = Pt g := hd.out 2 12 (by kernel_rfl) rfl
        go_simp
        exact hK.out _ _ hC (Below.refl _ _) rfl
      · have d13 : a'.tmps[13]?.getD undef = Pt g := hd.out 3 13 (by kernel_rfl) rfl
        have r0 := cell_at hC.2 0
        have r1 := cell_at hC.2 1
        simp at r0 r1
        go_simp
        exact hK.out _ _ hC (Below.refl _ _) rfl
      · have f0 : a'.tmps[0]?.getD undef = Pt g := (hf.out 0 (by kernel_rfl)).trans (by simp)
        go_simp
        exact hK.out _ _ hC (Below.refl _ _) rfl
      · have d15 : a'.tmps[15]?.getD undef = Pt g := hd.out 5 15 (by kernel_rfl) rfl
        go_simp
        exact hK.out _ _ hC (Below.refl _ _) rfl
      · have d16 : a'.tmps[16]?.getD undef = Pt g := hd.out 6 16 (by kernel_rfl) rfl
        go_simp
        exact hK.out _ _ hC (Below.refl _ _) rfl
      · have d17 : a'.tmps[17]?.getD undef = .pointer (some ⟨g, 1, none⟩) := hd.out 7 17 (by kernel_rfl) rfl
        have r0 := cell_at hC.2 0
        have r1 := cell_at hC.2 1
        simp at r0 r1
        go_simp
        exact hK.out _ _ hC (Below.refl _ _) rfl
      · have d10 : a'.tmps[10]?.getD undef = FnV 46 := hd.out 0 10 (by kernel_rfl) rfl
        have d14 : a'.tmps[14]?.getD undef = .string s := hd.out 4 14 (by kernel_rfl) rfl
        have d18 : a'.tmps[18]?.getD undef = .int .i64 a := hd.out 8 18 (by kernel_rfl) rfl
        go_simp; go_at_call 46; refine (G.out _).mono ?_; rintro en w2 ⟨rfl, rfl⟩; exact hK.out _ _ hC (Below.refl _ _) rfl
      · have d19 : a'.tmps[19]?.getD undef = .tuple #[.int .u16 (v : Nat), .bool true] := hd.out 9 19 (by kernel_rfl) rfl
        go_simp
        exact hK.out _ _ hC (Below.refl _ _) rfl
      · have d9 : a'.tmps[9]?.getD undef = .tuple #[.int .u16 (v : Nat), .bool true] := hd.out 10 9 (by kernel_rfl) rfl
        go_simp
        exact hK.out _ _ hC (Below.refl _ _) rfl
      · have d9 : a'.tmps[9]?.getD undef = .tuple #[.int .u16 (v : Nat), .bool true] := hd.out 10 9 (by kernel_rfl) rfl
        go_simp
        exact hK.out _ _ hC (Below.refl _ _) rfl
      · have d20 : a'.tmps[20]?.getD undef = .int .u16 (v : Nat) := hd.out 11 20 (by kernel_rfl) rfl
        go_simp
        exact hK.out _ _ hC (Below.refl _ _) rfl
      · have d21 : a'.tmps[21]?.getD undef = .bool true := hd.out 12 21 (by kernel_rfl) rfl
        go_simp
        exact hK.out _ _ hC (Below.refl _ _) rfl
    · intro vs wr hC hR
      have q0 : vs 0 = FnV 46 := hR.out 0 (by decide)
      have q1 : vs 1 = Pt g := hR.out 1 (by decide)
      have q2 : vs 2 = Pt g := hR.out 2 (by decide)
      have q3 : vs 3 = Pt g := hR.out 3 (by decide)
      have q4 : vs 4 = .string s := hR.out 4 (by decide)
      have q5 : vs 5 = Pt g := hR.out 5 (by decide)
      have q6 : vs 6 = Pt g := hR.out 6 (by decide)
      have q7 : vs 7 = .pointer (some ⟨g, 1, none⟩) := hR.out 7 (by decide)
      have q8 : vs 8 = .int .i64 a := hR.out 8 (by decide)
      have q9 : vs 9 = .tuple #[.int .u16 (v : Nat), .bool true] := hR.out 9 (by decide)
      have q10 : vs 10 = .tuple #[.int .u16 (v : Nat), .bool true] := hR.out 10 (by decide)
      have q11 : vs 11 = .int .u16 (v : Nat) := hR.out 11 (by decide)
      have q12 : vs 12 = .bool true := hR.out 12 (by decide)
      have q13 : vs 13 = .int .u16 (v : Nat) := hR.out 13 (by decide)
      have q14 : vs 14 = .bool true := hR.out 14 (by decide)
      simp only [fillF, Act.put, List.setIfInBounds_toArray, List.set_cons_zero, List.set_cons_succ, Nat.reduceAdd, q0, q1, q2, q3, q4, q5, q6, q7, q8, q9, q10, q11, q12, q13, q14]
      clear hR q0 q1 q2 q3 q4 q5 q6 q7 q8 q9 q10 q11 q12 q13 q14
      obtain ⟨F1, H1⟩ := hC
      have H3 := hide H1
      have k0 := cell_at H1 0
      have k1 := cell_at H1 1
      have f1 := free_at H1 1
      simp at k0 k1
      clear H1
      go_wp2
      go_ret
      refine ⟨rfl, (F1.no (S := fun k => k = g)).same fr_set2, ?_⟩
      show _ = _
      rw [set_block H3.out 1]; rfl

set_option maxRecDepth 100000 in
set_option maxHeartbeats 1000000 in
theorem take_uint32 {w : World} {g : Nat} {s : ByteArray} {a e : Int} (h : RdAt w g s a e) (hs : s.size ≤ maxLen) (h0 : 0 ≤ a) (h1 : a ≤ 4611686018427387904) :
    Calls Try.prog 73 #[Pt g, .int .i64 4, FnV 74] w (Took w g s (a + 4) (errS e (cutO s a 4) 3) (.int .u32 (getV 4 s a : Nat))) := by
  have G := hide (fun W => get32_any s hs (show I64 a by unfold I64; omega) W)
  generalize getV 4 s a = v at *
  have W1 : IntKind.i64.wrap (a + 4) = a + 4 := IntWalk.i64_in _ ⟨by omega, by omega⟩
  have H := hide h
  have k0 := cell_at h 0
  have k1 := cell_at h 1
  have k2 := cell_at h 2
  have f1 := free_at h 1
  simp at k0 k1 k2
  clear h
  cases ho : cutO s a 4 with
  | false =>
    rw [ho] at G
    clear ho
    have FL := hide (fun (W : World) (hW : RdAt W g s a e) => fail_any hW 3)
    clear k0 k1 k2 f1
    go_enter Try.func73, Try.ntmps73
    go_wp2_with fail
    refine wp_region_rel (RC w g s a e) [some 10, some 11, some 12, some 13, some 14, some 15, some 16, some 17, some 18, some 19, some 9, some 20, some 21, some 7, some 8] [fun yy _ => yy = FnV 74, fun yy _ => yy = Pt g, fun yy _ => yy = Pt g, fun yy _ => yy = Pt g, fun yy _ => yy = .string s, fun yy _ => yy = Pt g, fun yy _ => yy = Pt g, fun yy _ => yy = .pointer (some ⟨g, 1, none⟩), fun yy _ => yy = .int .i64 a, fun yy _ => yy = .tuple #[.int .u32 (v : Nat), .bool false], fun yy _ => yy = .tuple #[.int .u32 (v : Nat), .bool false], fun yy _ => yy = .int .u32 (v : Nat), fun yy _ => yy = .bool false, fun yy _ => yy = .int .u32 (v : Nat), fun yy _ => yy = .bool false] 35 (by kernel_rfl) (by kernel_rfl) rfl rfl (⟨(Fr.refl _ _).andNo (Fr.drew _), H.out.no (Fr.drew _)⟩) ?_ ?_
    · refine ⟨⟨fun _ _ _ h _ => h, fun a' W K hC hd hf hK => ?_⟩, ⟨fun _ _ _ h _ => h, fun a' W K hC hd hf hK => ?_⟩, ⟨fun _ _ _ h _ => h, fun a' W K hC hd hf hK => ?_⟩, ⟨fun _ _ _ h _ => h, fun a' W K hC hd hf hK => ?_⟩, ⟨fun _ _ _ h _ => h, fun a' W K hC hd hf hK => ?_⟩, ⟨fun _ _ _ h _ => h, fun a' W K hC hd hf hK => ?_⟩, ⟨fun _ _ _ h _ => h, fun a' W K hC hd hf hK => ?_⟩, ⟨fun _ _ _ h _ => h, fun a' W K hC hd hf hK => ?_⟩, ⟨fun _ _ _ h _ => h, fun a' W K hC hd hf hK => ?_⟩, ⟨fun _ _ _ h _ => h, fun a' W K hC hd hf hK => ?_⟩, ⟨fun _ _ _ h _ => h, fun a' W K hC hd hf hK => ?_⟩, ⟨fun _ _ _ h _ => h, fun a' W K hC hd hf hK => ?_⟩, ⟨fun _ _ _ h _ => h, fun a' W K hC hd hf hK => ?_⟩, ⟨fun _ _ _ h _ => h, fun a' W K hC hd hf hK => ?_⟩, ⟨fun _ _ _ h _ => h, fun a' W K hC hd hf hK => ?_⟩, trivial⟩
      · have f2 : a'.tmps[2]?.getD undef = FnV 74 := (hf.out 2 (by kernel_rfl)).trans (by simp)
        go_simp
        exact hK.out _ _ hC (Below.refl _ _) rfl
      · have f0 : a'.tmps[0]?.getD undef = Pt g := (hf.out 0 (by kernel_rfl)).trans (by simp)
        go_simp
        exact hK.out _ _ hC (Below.refl _ _) rfl
      · have d11 : a'.tmps[11]?.getD undef = Pt g := hd.out 1 11 (by kernel_rfl) rfl
        go_simp
        exact hK.out _ _ hC (Below.refl _ _) rfl
      · have d12 : a'.tmps[12]?.getD undef = Pt g := hd.out 2 12 (by kernel_rfl) rfl
        go_simp
        exact hK.out _ _ hC (Below.refl _ _) rfl
      · have d13 : a'.tmps[13]?.getD undef = Pt g := hd.out 3 13 (by kernel_rfl) rfl
        have r0 := cell_at hC.2 0
        have r1 := cell_at hC.2 1
        simp at r0 r1
        go_simp
        exact hK.out _ _ hC (Below.refl _ _) rfl
      · have f0 : a'.tmps[0]?.getD undef = Pt g := (hf.out 0 (by kernel_rfl)).trans (by simp)
        go_simp
        exact hK.out _ _ hC (Below.refl _ _) rfl
      · have d15 : a'.tmps[15]?.getD undef = Pt g := hd.out 5 15 (by kernel_rfl) rfl
        go_simp
        exact hK.out _ _ hC (Below.refl _ _) rfl
      · have d16 : a'.tmps[16]?.getD undef = Pt g := hd.out 6 16 (by kernel_rfl) rfl
        go_simp
        exact hK.out _ _ hC (Below.refl _ _) rfl
      · have d17 : a'.tmps[17]?.getD undef = .pointer (some ⟨g, 1, none⟩) := hd.out 7 17 (by kernel_rfl) rfl
        have r0 := cell_at hC.2 0
        have r1 := cell_at hC.2 1
        simp at r0 r1
        go_simp
        exact hK.out _ _ hC (Below.refl _ _) rfl
      · have d10 : a'.tmps[10]?.getD undef = FnV 74 := hd.out 0 10 (by kernel_rfl) rfl
        have d14 : a'.tmps[14]?.getD undef = .string s := hd.out 4 14 (by kernel_rfl) rfl
        have d18 : a'.tmps[18]?.getD undef = .int .i64 a := hd.out 8 18 (by kernel_rfl) rfl
        go_simp; go_at_call 74; refine (G.out _).mono ?_; rintro en w2 ⟨rfl, rfl⟩; exact hK.out _ _ hC (Below.refl _ _) rfl
      · have d19 : a'.tmps[19]?.getD undef = .tuple #[.int .u32 (v : Nat), .bool false] := hd.out 9 19 (by kernel_rfl) rfl
        go_simp
        exact hK.out _ _ hC (Below.refl _ _) rfl
      · have d9 : a'.tmps[9]?.getD undef = .tuple #[.int .u32 (v : Nat), .bool false] := hd.out 10 9 (by kernel_rfl) rfl
        go_simp
        exact hK.out _ _ hC (Below.refl _ _) rfl
      · have d9 : a'.tmps[9]?.getD undef = .tuple #[.int .u32 (v : Nat), .bool false] := hd.out 10 9 (by kernel_rfl) rfl
        go_simp
        exact hK.out _ _ hC (Below.refl _ _) rfl
      · have d20 : a'.tmps[20]?.getD undef = .int .u32 (v : Nat) := hd.out 11 20 (by kernel_rfl) rfl
        go_simp
        exact hK.out _ _ hC (Below.refl _ _) rfl
      · have d21 : a'.tmps[21]?.getD undef = .bool false := hd.out 12 21 (by kernel_rfl) rfl
        go_simp
        exact hK.out _ _ hC (Below.refl _ _) rfl
    · intro vs wr hC hR
      have q0 : vs 0 = FnV 74 := hR.out 0 (by decide)
      have q1 : vs 1 = Pt g := hR.out 1 (by decide)
      have q2 : vs 2 = Pt g := hR.out 2 (by decide)
      have q3 : vs 3 = Pt g := hR.out 3 (by decide)
      have q4 : vs 4 = .string s := hR.out 4 (by decide)
      have q5 : vs 5 = Pt g := hR.out 5 (by decide)
      have q6 : vs 6 = Pt g := hR.out 6 (by decide)
      have q7 : vs 7 = .pointer (some ⟨g, 1, none⟩) := hR.out 7 (by decide)
      have q8 : vs 8 = .int .i64 a := hR.out 8 (by decide)
      have q9 : vs 9 = .tuple #[.int .u32 (v : Nat), .bool false] := hR.out 9 (by decide)
      have q10 : vs 10 = .tuple #[.int .u32 (v : Nat), .bool false] := hR.out 10 (by decide)
      have q11 : vs 11 = .int .u32 (v : Nat) := hR.out 11 (by decide)
      have q12 : vs 12 = .bool false := hR.out 12 (by decide)
      have q13 : vs 13 = .int .u32 (v : Nat) := hR.out 13 (by decide)
      have q14 : vs 14 = .bool false := hR.out 14 (by decide)
      simp only [fillF, Act.put, List.setIfInBounds_toArray, List.set_cons_zero, List.set_cons_succ, Nat.reduceAdd, q0, q1, q2, q3, q4, q5, q6, q7, q8, q9, q10, q11, q12, q13, q14]
      clear hR q0 q1 q2 q3 q4 q5 q6 q7 q8 q9 q10 q11 q12 q13 q14
      obtain ⟨F1, H1⟩ := hC
      go_wp2_with fail
      refine (FL.out _ H1).mono ?_
      rintro en w2 ⟨rfl, F2, H2⟩
      have F3 := (F1.no (S := fun k => k = g)).same F2
      have H3 := hide H2
      have k0 := cell_at H2 0
      have k1 := cell_at H2 1
      have f1 := free_at H2 1
      simp at k0 k1
      clear H2
      go_wp2
      go_ret
      refine ⟨rfl, F3.same fr_set2, ?_⟩
      show _ = _
      rw [set_block H3.out 1]; rfl
  | true =>
    rw [ho] at G
    clear ho
    clear k0 k1 k2 f1
    go_enter Try.func73, Try.ntmps73
    go_wp2_with fail
    refine wp_region_rel (RC w g s a e) [some 10, some 11, some 12, some 13, some 14, some 15, some 16, some 17, some 18, some 19, some 9, some 20, some 21, some 7, some 8] [fun yy _ => yy = FnV 74, fun yy _ => yy = Pt g, fun yy _ => yy = Pt g, fun yy _ => yy = Pt g, fun yy _ => yy = .string s, fun yy _ => yy = Pt g, fun yy _ => yy = Pt g, fun yy _ => yy = .pointer (some ⟨g, 1, none⟩), fun yy _ => yy = .int .i64 a, fun yy _ => yy = .tuple #[.int .u32 (v : Nat), .bool true], fun yy _ => yy = .tuple #[.int .u32 (v : Nat), .bool true], fun yy _ => yy = .int .u32 (v : Nat), fun yy _ => yy = .bool true, fun yy _ => yy = .int .u32 (v : Nat), fun yy _ => yy = .bool true] 35 (by kernel_rfl) (by kernel_rfl) rfl rfl (⟨(Fr.refl _ _).andNo (Fr.drew _), H.out.no (Fr.drew _)⟩) ?_ ?_
    · refine ⟨⟨fun _ _ _ h _ => h, fun a' W K hC hd hf hK => ?_⟩, ⟨fun _ _ _ h _ => h, fun a' W K hC hd hf hK => ?_⟩, ⟨fun _ _ _ h _ => h, fun a' W K hC hd hf hK => ?_⟩, ⟨fun _ _ _ h _ => h, fun a' W K hC hd hf hK => ?_⟩, ⟨fun _ _ _ h _ => h, fun a' W K hC hd hf hK => ?_⟩, ⟨fun _ _ _ h _ => h, fun a' W K hC hd hf hK => ?_⟩, ⟨fun _ _ _ h _ => h, fun a' W K hC hd hf hK => ?_⟩, ⟨fun _ _ _ h _ => h, fun a' W K hC hd hf hK => ?_⟩, ⟨fun _ _ _ h _ => h, fun a' W K hC hd hf hK => ?_⟩, ⟨fun _ _ _ h _ => h, fun a' W K hC hd hf hK => ?_⟩, ⟨fun _ _ _ h _ => h, fun a' W K hC hd hf hK => ?_⟩, ⟨fun _ _ _ h _ => h, fun a' W K hC hd hf hK => ?_⟩, ⟨fun _ _ _ h _ => h, fun a' W K hC hd hf hK => ?_⟩, ⟨fun _ _ _ h _ => h, fun a' W K hC hd hf hK => ?_⟩, ⟨fun _ _ _ h _ => h, fun a' W K hC hd hf hK => ?_⟩, trivial⟩
      · have f2 : a'.tmps[2]?.getD undef = FnV 74 := (hf.out 2 (by kernel_rfl)).trans (by simp)
        go_simp
        exact hK.out _ _ hC (Below.refl _ _) rfl
      · have f0 : a'.tmps[0]?.getD undef = Pt g := (hf.out 0 (by kernel_rfl)).trans (by simp)
        go_simp
        exact hK.out _ _ hC (Below.refl _ _) rfl
      · have d11 : a'.tmps[11]?.getD undef = Pt g := hd.out 1 11 (by kernel_rfl) rfl
        go_simp
        exact hK.out _ _ hC (Below.refl _ _) rfl
      · have d12 : a'.tmps[12]?.getD undef = Pt g := hd.out 2 12 (by kernel_rfl) rfl
        go_simp
        exact hK.out _ _ hC (Below.refl _ _) rfl
      · have d13 : a'.tmps[13]?.getD undef = Pt g := hd.out 3 13 (by kernel_rfl) rfl
        have r0 := cell_at hC.2 0
        have r1 := cell_at hC.2 1
        simp at r0 r1
        go_simp
        exact hK.out _ _ hC (Below.refl _ _) rfl
      · have f0 : a'.tmps[0]?.getD undef = Pt g := (hf.out 0 (by kernel_rfl)).trans (by simp)
        go_simp
        exact hK.out _ _ hC (Below.refl _ _) rfl
      · have d15 : a'.tmps[15]?.getD undef = Pt g := hd.out 5 15 (by kernel_rfl) rfl
        go_simp
        exact hK.out _ _ hC (Below.refl _ _) rfl
      · have d16 : a'.tmps[16]?.getD undef = Pt g := hd.out 6 16 (by kernel_rfl) rfl
        go_simp
        exact hK.out _ _ hC (Below.refl _ _) rfl
      · have d17 : a'.tmps[17]?.getD undef = .pointer (some ⟨g, 1, none⟩) := hd.out 7 17 (by kernel_rfl) rfl
        have r0 := cell_at hC.2 0
        have r1 := cell_at hC.2 1
        simp at r0 r1
        go_simp
        exact hK.out _ _ hC (Below.refl _ _) rfl
      · have d10 : a'.tmps[10]?.getD undef = FnV 74 := hd.out 0 10 (by kernel_rfl) rfl
        have d14 : a'.tmps[14]?.getD undef = .string s := hd.out 4 14 (by kernel_rfl) rfl
        have d18 : a'.tmps[18]?.getD undef = .int .i64 a := hd.out 8 18 (by kernel_rfl) rfl
        go_simp; go_at_call 74; refine (G.out _).mono ?_; rintro en w2 ⟨rfl, rfl⟩; exact hK.out _ _ hC (Below.refl _ _) rfl
      · have d19 : a'.tmps[19]?.getD undef = .tuple #[.int .u32 (v : Nat), .bool true] := hd.out 9 19 (by kernel_rfl) rfl
        go_simp
        exact hK.out _ _ hC (Below.refl _ _) rfl
      · have d9 : a'.tmps[9]?.getD undef = .tuple #[.int .u32 (v : Nat), .bool true] := hd.out 10 9 (by kernel_rfl) rfl
        go_simp
        exact hK.out _ _ hC (Below.refl _ _) rfl
      · have d9 : a'.tmps[9]?.getD undef = .tuple #[.int .u32 (v : Nat), .bool true] := hd.out 10 9 (by kernel_rfl) rfl
        go_simp
        exact hK.out _ _ hC (Below.refl _ _) rfl
      · have d20 : a'.tmps[20]?.getD undef = .int .u32 (v : Nat) := hd.out 11 20 (by kernel_rfl) rfl
        go_simp
        exact hK.out _ _ hC (Below.refl _ _) rfl
      · have d21 : a'.tmps[21]?.getD undef = .bool true := hd.out 12 21 (by kernel_rfl) rfl
        go_simp
        exact hK.out _ _ hC (Below.refl _ _) rfl
    · intro vs wr hC hR
      have q0 : vs 0 = FnV 74 := hR.out 0 (by decide)
      have q1 : vs 1 = Pt g := hR.out 1 (by decide)
      have q2 : vs 2 = Pt g := hR.out 2 (by decide)
      have q3 : vs 3 = Pt g := hR.out 3 (by decide)
      have q4 : vs 4 = .string s := hR.out 4 (by decide)
      have q5 : vs 5 = Pt g := hR.out 5 (by decide)
      have q6 : vs 6 = Pt g := hR.out 6 (by decide)
      have q7 : vs 7 = .pointer (some ⟨g, 1, none⟩) := hR.out 7 (by decide)
      have q8 : vs 8 = .int .i64 a := hR.out 8 (by decide)
      have q9 : vs 9 = .tuple #[.int .u32 (v : Nat), .bool true] := hR.out 9 (by decide)
      have q10 : vs 10 = .tuple #[.int .u32 (v : Nat), .bool true] := hR.out 10 (by decide)
      have q11 : vs 11 = .int .u32 (v : Nat) := hR.out 11 (by decide)
      have q12 : vs 12 = .bool true := hR.out 12 (by decide)
      have q13 : vs 13 = .int .u32 (v : Nat) := hR.out 13 (by decide)
      have q14 : vs 14 = .bool true := hR.out 14 (by decide)
      simp only [fillF, Act.put, List.setIfInBounds_toArray, List.set_cons_zero, List.set_cons_succ, Nat.reduceAdd, q0, q1, q2, q3, q4, q5, q6, q7, q8, q9, q10, q11, q12, q13, q14]
      clear hR q0 q1 q2 q3 q4 q5 q6 q7 q8 q9 q10 q11 q12 q13 q14
      obtain ⟨F1, H1⟩ := hC
      have H3 := hide H1
      have k0 := cell_at H1 0
      have k1 := cell_at H1 1
      have f1 := free_at H1 1
      simp at k0 k1
      clear H1
      go_wp2
      go_ret
      refine ⟨rfl, (F1.no (S := fun k => k = g)).same fr_set2, ?_⟩
      show _ = _
      rw [set_block H3.out 1]; rfl

set_option maxRecDepth 100000 in
set_option maxHeartbeats 1000000 in
theorem take_uint64 {w : World} {g : Nat} {s : ByteArray} {a e : Int} (h : RdAt w g s a e) (hs : s.size ≤ maxLen) (h0 : 0 ≤ a) (h1 : a ≤ 4611686018427387904) :
    Calls Try.prog 75 #[Pt g, .int .i64 8, FnV 76] w (Took w g s (a + 8) (errS e (cutO s a 8) 3) (.int .u64 (getV 8 s a : Nat))) := by
  have G := hide (fun W => get64_any s hs (show I64 a by unfold I64; omega) W)
  generalize getV 8 s a = v at *
  have W1 : IntKind.i64.wrap (a + 8) = a + 8 := IntWalk.i64_in _ ⟨by omega, by omega⟩
  have H := hide h
  have k0 := cell_at h 0
  have k1 := cell_at h 1
  have k2 := cell_at h 2
  have f1 := free_at h 1
  simp at k0 k1 k2
  clear h
  cases ho : cutO s a 8 with
  | false =>
    rw [ho] at G
    clear ho
    have FL := hide (fun (W : World) (hW : RdAt W g s a e) => fail_any hW 3)
    clear k0 k1 k2 f1
    go_enter Try.func75, Try.ntmps75
    go_wp2_with fail
    refine wp_region_rel (RC w g s a e) [some 10, some 11, some 12, some 13, some 14, some 15, some 16, some 17, some 18, some 19, some 9, some 20, some 21, some 7, some 8] [fun yy _ => yy = FnV 76, fun yy _ => yy = Pt g, fun yy _ => yy = Pt g, fun yy _ => yy = Pt g, fun yy _ => yy = .string s, fun yy _ => yy = Pt g, fun yy _ => yy = Pt g, fun yy _ => yy = .pointer (some ⟨g, 1, none⟩), fun yy _ => yy = .int .i64 a, fun yy _ => yy = .tuple #[.int .u64 (v : Nat), .bool false], fun yy _ => yy = .tuple #[.int .u64 (v : Nat), .bool false], fun yy _ => yy = .int .u64 (v : Nat), fun yy _ => yy = .bool false, fun yy _ => yy = .int .u64 (v : Nat), fun yy _ => yy = .bool false] 35 (by kernel_rfl) (by kernel_rfl) rfl rfl (⟨(Fr.refl _ _).andNo (Fr.drew _), H.out.no (Fr.drew _)⟩) ?_ ?_
    · refine ⟨⟨fun _ _ _ h _ => h, fun a' W K hC hd hf hK => ?_⟩, ⟨fun _ _ _ h _ => h, fun a' W K hC hd hf hK => ?_⟩, ⟨fun _ _ _ h _ => h, fun a' W K hC hd hf hK => ?_⟩, ⟨fun _ _ _ h _ => h, fun a' W K hC hd hf hK => ?_⟩, ⟨fun _ _ _ h _ => h, fun a' W K hC hd hf hK => ?_⟩, ⟨fun _ _ _ h _ => h, fun a' W K hC hd hf hK => ?_⟩, ⟨fun _ _ _ h _ => h, fun a' W K hC hd hf hK => ?_⟩, ⟨fun _ _ _ h _ => h, fun a' W K hC hd hf hK => ?_⟩, ⟨fun _ _ _ h _ => h, fun a' W K hC hd hf hK => ?_⟩, ⟨fun _ _ _ h _ => h, fun a' W K hC hd hf hK => ?_⟩, ⟨fun _ _ _ h _ => h, fun a' W K hC hd hf hK => ?_⟩, ⟨fun _ _ _ h _ => h, fun a' W K hC hd hf hK => ?_⟩, ⟨fun _ _ _ h _ => h, fun a' W K hC hd hf hK => ?_⟩, ⟨fun _ _ _ h _ => h, fun a' W K hC hd hf hK => ?_⟩, ⟨fun _ _ _ h _ => h, fun a' W K hC hd hf hK => ?_⟩, trivial⟩
      · have f2 : a'.tmps[2]?.getD undef = FnV 76 := (hf.out 2 (by kernel_rfl)).trans (by simp)
        go_simp
        exact hK.out _ _ hC (Below.refl _ _) rfl
      · have f0 : a'.tmps[0]?.getD undef = Pt g := (hf.out 0 (by kernel_rfl)).trans (by simp)
        go_simp
        exact hK.out _ _ hC (Below.refl _ _) rfl
      · have d11 : a'.tmps[11]?.getD undef = Pt g := hd.out 1 11 (by kernel_rfl) rfl
        go_simp
        exact hK.out _ _ hC (Below.refl _ _) rfl
      · have d12 : a'.tmps[12]?.getD undef = Pt g := hd.out 2 12 (by kernel_rfl) rfl
        go_simp
        exact hK.out _ _ hC (Below.refl _ _) rfl
      · have d13 : a'.tmps[13]?.getD undef = Pt g := hd.out 3 13 (by kernel_rfl) rfl
        have r0 := cell_at hC.2 0
        have r1 := cell_at hC.2 1
        simp at r0 r1
        go_simp
        exact hK.out _ _ hC (Below.refl _ _) rfl
      · have f0 : a'.tmps[0]?.getD undef = Pt g := (hf.out 0 (by kernel_rfl)).trans (by simp)
        go_simp
        exact hK.out _ _ hC (Below.refl _ _) rfl
      · have d15 : a'.tmps[15]?.getD undef = Pt g := hd.out 5 15 (by kernel_rfl) rfl
        go_simp
        exact hK.out _ _ hC (Below.refl _ _) rfl
      · have d16 : a'.tmps[16]?.getD undef = Pt g := hd.out 6 16 (by kernel_rfl) rfl
        go_simp
        exact hK.out _ _ hC (Below.refl _ _) rfl
      · have d17 : a'.tmps[17]?.getD undef = .pointer (some ⟨g, 1, none⟩) := hd.out 7 17 (by kernel_rfl) rfl
        have r0 := cell_at hC.2 0
        have r1 := cell_at hC.2 1
        simp at r0 r1
        go_simp
        exact hK.out _ _ hC (Below.refl _ _) rfl
      · have d10 : a'.tmps[10]?.getD undef = FnV 76 := hd.out 0 10 (by kernel_rfl) rfl
        have d14 : a'.tmps[14]?.getD undef = .string s := hd.out 4 14 (by kernel_rfl) rfl
        have d18 : a'.tmps[18]?.getD undef = .int .i64 a := hd.out 8 18 (by kernel_rfl) rfl
        go_simp; go_at_call 76; refine (G.out _).mono ?_; rintro en w2 ⟨rfl, rfl⟩; exact hK.out _ _ hC (Below.refl _ _) rfl
      · have d19 : a'.tmps[19]?.getD undef = .tuple #[.int .u64 (v : Nat), .bool false] := hd.out 9 19 (by kernel_rfl) rfl
        go_simp
        exact hK.out _ _ hC (Below.refl _ _) rfl
      · have d9 : a'.tmps[9]?.getD undef = .tuple #[.int .u64 (v : Nat), .bool false] := hd.out 10 9 (by kernel_rfl) rfl
        go_simp
        exact hK.out _ _ hC (Below.refl _ _) rfl
      · have d9 : a'.tmps[9]?.getD undef = .tuple #[.int .u64 (v : Nat), .bool false] := hd.out 10 9 (by kernel_rfl) rfl
        go_simp
        exact hK.out _ _ hC (Below.refl _ _) rfl
      · have d20 : a'.tmps[20]?.getD undef = .int .u64 (v : Nat) := hd.out 11 20 (by kernel_rfl) rfl
        go_simp
        exact hK.out _ _ hC (Below.refl _ _) rfl
      · have d21 : a'.tmps[21]?.getD undef = .bool false := hd.out 12 21 (by kernel_rfl) rfl
        go_simp
        exact hK.out _ _ hC (Below.refl _ _) rfl
    · intro vs wr hC hR
      have q0 : vs 0 = FnV 76 := hR.out 0 (by decide)
      have q1 : vs 1 = Pt g := hR.out 1 (by decide)
      have q2 : vs 2 = Pt g := hR.out 2 (by decide)
      have q3 : vs 3 = Pt g := hR.out 3 (by decide)
      have q4 : vs 4 = .string s := hR.out 4 (by decide)
      have q5 : vs 5 = Pt g := hR.out 5 (by decide)
      have q6 : vs 6 = Pt g := hR.out 6 (by decide)
      have q7 : vs 7 = .pointer (some ⟨g, 1, none⟩) := hR.out 7 (by decide)
      have q8 : vs 8 = .int .i64 a := hR.out 8 (by decide)
      have q9 : vs 9 = .tuple #[.int .u64 (v : Nat), .bool false] := hR.out 9 (by decide)
      have q10 : vs 10 = .tuple #[.int .u64 (v : Nat), .bool false] := hR.out 10 (by decide)
      have q11 : vs 11 = .int .u64 (v : Nat) := hR.out 11 (by decide)
      have q12 : vs 12 = .bool false := hR.out 12 (by decide)
      have q13 : vs 13 = .int .u64 (v : Nat) := hR.out 13 (by decide)
      have q14 : vs 14 = .bool false := hR.out 14 (by decide)
      simp only [fillF, Act.put, List.setIfInBounds_toArray, List.set_cons_zero, List.set_cons_succ, Nat.reduceAdd, q0, q1, q2, q3, q4, q5, q6, q7, q8, q9, q10, q11, q12, q13, q14]
      clear hR q0 q1 q2 q3 q4 q5 q6 q7 q8 q9 q10 q11 q12 q13 q14
      obtain ⟨F1, H1⟩ := hC
      go_wp2_with fail
      refine (FL.out _ H1).mono ?_
      rintro en w2 ⟨rfl, F2, H2⟩
      have F3 := (F1.no (S := fun k => k = g)).same F2
      have H3 := hide H2
      have k0 := cell_at H2 0
      have k1 := cell_at H2 1
      have f1 := free_at H2 1
      simp at k0 k1
      clear H2
      go_wp2
      go_ret
      refine ⟨rfl, F3.same fr_set2, ?_⟩
      show _ = _
      rw [set_block H3.out 1]; rfl
  | true =>
    rw [ho] at G
    clear ho
    clear k0 k1 k2 f1
    go_enter Try.func75, Try.ntmps75
    go_wp2_with fail
    refine wp_region_rel (RC w g s a e) [some 10, some 11, some 12, some 13, some 14, some 15, some 16, some 17, some 18, some 19, some 9, some 20, some 21, some 7, some 8] [fun yy _ => yy = FnV 76, fun yy _ => yy = Pt g, fun yy _ => yy = Pt g, fun yy _ => yy = Pt g, fun yy _ => yy = .string s, fun yy _ => yy = Pt g, fun yy _ => yy = Pt g, fun yy _ => yy = .pointer (some ⟨g, 1, none⟩), fun yy _ => yy = .int .i64 a, fun yy _ => yy = .tuple #[.int .u64 (v : Nat), .bool true], fun yy _ => yy = .tuple #[.int .u64 (v : Nat), .bool true], fun yy _ => yy = .int .u64 (v : Nat), fun yy _ => yy = .bool true, fun yy _ => yy = .int .u64 (v : Nat), fun yy _ => yy = .bool true] 35 (by kernel_rfl) (by kernel_rfl) rfl rfl (⟨(Fr.refl _ _).andNo (Fr.drew _), H.out.no (Fr.drew _)⟩) ?_ ?_
    · refine ⟨⟨fun _ _ _ h _ => h, fun a' W K hC hd hf hK => ?_⟩, ⟨fun _ _ _ h _ => h, fun a' W K hC hd hf hK => ?_⟩, ⟨fun _ _ _ h _ => h, fun a' W K hC hd hf hK => ?_⟩, ⟨fun _ _ _ h _ => h, fun a' W K hC hd hf hK => ?_⟩, ⟨fun _ _ _ h _ => h, fun a' W K hC hd hf hK => ?_⟩, ⟨fun _ _ _ h _ => h, fun a' W K hC hd hf hK => ?_⟩, ⟨fun _ _ _ h _ => h, fun a' W K hC hd hf hK => ?_⟩, ⟨fun _ _ _ h _ => h, fun a' W K hC hd hf hK => ?_⟩, ⟨fun _ _ _ h _ => h, fun a' W K hC hd hf hK => ?_⟩, ⟨fun _ _ _ h _ => h, fun a' W K hC hd hf hK => ?_⟩, ⟨fun _ _ _ h _ => h, fun a' W K hC hd hf hK => ?_⟩, ⟨fun _ _ _ h _ => h, fun a' W K hC hd hf hK => ?_⟩, ⟨fun _ _ _ h _ => h, fun a' W K hC hd hf hK => ?_⟩, ⟨fun _ _ _ h _ => h, fun a' W K hC hd hf hK => ?_⟩, ⟨fun _ _ _ h _ => h, fun a' W K hC hd hf hK => ?_⟩, trivial⟩
      · have f2 : a'.tmps[2]?.getD undef = FnV 76 := (hf.out 2 (by kernel_rfl)).trans (by simp)
        go_simp
        exact hK.out _ _ hC (Below.refl _ _) rfl
      · have f0 : a'.tmps[0]?.getD undef = Pt g := (hf.out 0 (by kernel_rfl)).trans (by simp)
        go_simp
        exact hK.out _ _ hC (Below.refl _ _) rfl
      · have d11 : a'.tmps[11]?.getD undef = Pt g := hd.out 1 11 (by kernel_rfl) rfl
        go_simp
        exact hK.out _ _ hC (Below.refl _ _) rfl
      · have d12 : a'.tmps[12]?.getD undef = Pt g := hd.out 2 12 (by kernel_rfl) rfl
        go_simp
        exact hK.out _ _ hC (Below.refl _ _) rfl
      · have d13 : a'.tmps[13]?.getD undef = Pt g := hd.out 3 13 (by kernel_rfl) rfl
        have r0 := cell_at hC.2 0
        have r1 := cell_at hC.2 1
        simp at r0 r1
        go_simp
        exact hK.out _ _ hC (Below.refl _ _) rfl
      · have f0 : a'.tmps[0]?.getD undef = Pt g := (hf.out 0 (by kernel_rfl)).trans (by simp)
        go_simp
        exact hK.out _ _ hC (Below.refl _ _) rfl
      · have d15 : a'.tmps[15]?.getD undef = Pt g := hd.out 5 15 (by kernel_rfl) rfl
        go_simp
        exact hK.out _ _ hC (Below.refl _ _) rfl
      · have d16 : a'.tmps[16]?.getD undef = Pt g := hd.out 6 16 (by kernel_rfl) rfl
        go_simp
        exact hK.out _ _ hC (Below.refl _ _) rfl
      · have d17 : a'.tmps[17]?.getD undef = .pointer (some ⟨g, 1, none⟩) := hd.out 7 17 (by kernel_rfl) rfl
        have r0 := cell_at hC.2 0
        have r1 := cell_at hC.2 1
        simp at r0 r1
        go_simp
        exact hK.out _ _ hC (Below.refl _ _) rfl
      · have d10 : a'.tmps[10]?.getD undef = FnV 76 := hd.out 0 10 (by kernel_rfl) rfl
        have d14 : a'.tmps[14]?.getD undef = .string s := hd.out 4 14 (by kernel_rfl) rfl
        have d18 : a'.tmps[18]?.getD undef = .int .i64 a := hd.out 8 18 (by kernel_rfl) rfl
        go_simp; go_at_call 76; refine (G.out _).mono ?_; rintro en w2 ⟨rfl, rfl⟩; exact hK.out _ _ hC (Below.refl _ _) rfl
      · have d19 : a'.tmps[19]?.getD undef = .tuple #[.int .u64 (v : Nat), .bool true] := hd.out 9 19 (by kernel_rfl) rfl
        go_simp
        exact hK.out _ _ hC (Below.refl _ _) rfl
      · have d9 : a'.tmps[9]?.getD undef = .tuple #[.int .u64 (v : Nat), .bool true] := hd.out 10 9 (by kernel_rfl) rfl
        go_simp
        exact hK.out _ _ hC (Below.refl _ _) rfl
      · have d9 : a'.tmps[9]?.getD undef = .tuple #[.int .u64 (v : Nat), .bool true] := hd.out 10 9 (by kernel_rfl) rfl
        go_simp
        exact hK.out _ _ hC (Below.refl _ _) rfl
      · have d20 : a'.tmps[20]?.getD undef = .int .u64 (v : Nat) := hd.out 11 20 (by kernel_rfl) rfl
        go_simp
        exact hK.out _ _ hC (Below.refl _ _) rfl
      · have d21 : a'.tmps[21]?.getD undef = .bool true := hd.out 12 21 (by kernel_rfl) rfl
        go_simp
        exact hK.out _ _ hC (Below.refl _ _) rfl
    · intro vs wr hC hR
      have q0 : vs 0 = FnV 76 := hR.out 0 (by decide)
      have q1 : vs 1 = Pt g := hR.out 1 (by decide)
      have q2 : vs 2 = Pt g := hR.out 2 (by decide)
      have q3 : vs 3 = Pt g := hR.out 3 (by decide)
      have q4 : vs 4 = .string s := hR.out 4 (by decide)
      have q5 : vs 5 = Pt g := hR.out 5 (by decide)
      have q6 : vs 6 = Pt g := hR.out 6 (by decide)
      have q7 : vs 7 = .pointer (some ⟨g, 1, none⟩) := hR.out 7 (by decide)
      have q8 : vs 8 = .int .i64 a := hR.out 8 (by decide)
      have q9 : vs 9 = .tuple #[.int .u64 (v : Nat), .bool true] := hR.out 9 (by decide)
      have q10 : vs 10 = .tuple #[.int .u64 (v : Nat), .bool true] := hR.out 10 (by decide)
      have q11 : vs 11 = .int .u64 (v : Nat) := hR.out 11 (by decide)
      have q12 : vs 12 = .bool true := hR.out 12 (by decide)
      have q13 : vs 13 = .int .u64 (v : Nat) := hR.out 13 (by decide)
      have q14 : vs 14 = .bool true := hR.out 14 (by decide)
      simp only [fillF, Act.put, List.setIfInBounds_toArray, List.set_cons_zero, List.set_cons_succ, Nat.reduceAdd, q0, q1, q2, q3, q4, q5, q6, q7, q8, q9, q10, q11, q12, q13, q14]
      clear hR q0 q1 q2 q3 q4 q5 q6 q7 q8 q9 q10 q11 q12 q13 q14
      obtain ⟨F1, H1⟩ := hC
      have H3 := hide H1
      have k0 := cell_at H1 0
      have k1 := cell_at H1 1
      have f1 := free_at H1 1
      simp at k0 k1
      clear H1
      go_wp2
      go_ret
      refine ⟨rfl, (F1.no (S := fun k => k = g)).same fr_set2, ?_⟩
      show _ = _
      rw [set_block H3.out 1]; rfl
end Go.Proofs.Ytgioifdmmneapaa
