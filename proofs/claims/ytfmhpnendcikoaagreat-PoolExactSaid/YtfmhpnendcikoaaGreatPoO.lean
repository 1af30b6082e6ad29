/-
  Contract of pool's Own: the addresses of the leases of a kind, rising, each once; contract of the law's few. Conditions: the words are words of 64 bits; at most 1000 leases.
-/
import Derived.Test.YtfmhpnendcikoaaGreatPoC
namespace Go.Proofs.YtfmhpnendcikoaaGreat
open Go.RowKit Go.Joins

/-- a lease: kind, the prefix's address and bits, state, client, iaid, until -/
structure Lz where
  kind : Int
  p : Nat
  n : Int
  st : Int
  cl : ByteArray
  ia : Nat
  un : Int
structure Lz.ok (x : Lz) : Prop where
  kind : -9223372036854775808 ≤ x.kind ∧ x.kind ≤ 9223372036854775807
  p : Fits x.p
  n : -9223372036854775808 ≤ x.n ∧ x.n ≤ 9223372036854775807
  st : -9223372036854775808 ≤ x.st ∧ x.st ≤ 9223372036854775807
  cl : x.cl.size ≤ maxLen
  ia : x.ia < 4294967296
  un : -9223372036854775808 ≤ x.un ∧ x.un ≤ 9223372036854775807
def wdZ (x : Lz) : List Value := [.int .i64 x.kind, .int .u64 (hi x.p : Nat), .int .u64 (lo x.p : Nat), .int .i64 x.n, .int .i64 x.st, .string x.cl, .int .u32 (x.ia : Int), .int .i64 x.un]
def AtZ (b o : Nat) (x : Lz) (W : World) : Prop := W.cell? ⟨b, o, none⟩ = some (.int .i64 x.kind) ∧ W.cell? ⟨b, o + 1, none⟩ = some (.int .u64 (hi x.p : Nat)) ∧ W.cell? ⟨b, o + 2, none⟩ = some (.int .u64 (lo x.p : Nat)) ∧
  W.cell? ⟨b, o + 3, none⟩ = some (.int .i64 x.n) ∧ W.cell? ⟨b, o + 4, none⟩ = some (.int .i64 x.st) ∧ W.cell? ⟨b, o + 5, none⟩ = some (.string x.cl) ∧ W.cell? ⟨b, o + 6, none⟩ = some (.int .u32 (x.ia : Int)) ∧ W.cell? ⟨b, o + 7, none⟩ = some (.int .i64 x.un)
theorem AtZ.step {b o : Nat} {x : Lz} {W w2 : World} (h : AtZ b o x W) (hb : Below W.heap.size W w2) : AtZ b o x w2 := by
  obtain ⟨h0, h1, h2, h3, h4, h5, h6, h7⟩ := h
  exact ⟨keep_cell hb h0, keep_cell hb h1, keep_cell hb h2, keep_cell hb h3, keep_cell hb h4, keep_cell hb h5, keep_cell hb h6, keep_cell hb h7⟩
/-- a slice that reads as a list of leases -/
def LstZ (p : Option Go.Addr) (l : List Lz) (W : World) : Prop := ∀ (k : Nat) (x : Lz), l[k]? = some x → ∃ b o, p = some ⟨b, o, none⟩ ∧ AtZ b (o + k * 8) x W
theorem LstZ.step {p : Option Go.Addr} {l : List Lz} {W w2 : World} (h : LstZ p l W) (hb : Below W.heap.size W w2) : LstZ p l w2 := fun k x hk => by
  obtain ⟨b, o, h1, h2⟩ := h k x hk
  exact ⟨b, o, h1, h2.step hb⟩
def ownF (l : List Lz) (k : Int) : List Nat := (l.filter (fun x => x.kind == k)).map (·.p)
def ownS (l : List Lz) (k : Int) : List Nat := upL (ownF l k)
theorem ownF_len (l : List Lz) (k : Int) : (ownF l k).length ≤ l.length := by unfold ownF; rw [List.length_map]; exact List.length_filter_le _ _
theorem ownF_take {l : List Lz} {i : Nat} {x : Lz} (h : l[i]? = some x) (k : Int) : ownF (l.take (i + 1)) k = if (x.kind == k) = true then ownF (l.take i) k ++ [x.p] else ownF (l.take i) k := by
  unfold ownF
  rw [List.take_add_one, h, List.filter_append, List.map_append]
  cases e : x.kind == k with
  | true => simp [e]
  | false => simp [e]
theorem own_twoN {W : World} {n x : Nat} {t : TypeId} (hn : W.heap.size = n) : ∀ j u, (cellsA [x])[j]? = some u → (W.alloc (.cells #[.int .u64 (hi x : Nat), .int .u64 (lo x : Nat)] t)).cell? ((⟨n, 0, none⟩ : Go.Addr).add j) = some u := by
  subst hn
  exact own_two
/-- the box of a round of Own -/
def AtZ0 (g : Nat) (x : Lz) (W : World) : Prop := W.cell? ⟨g, 0, none⟩ = some (.int .i64 x.kind) ∧ W.cell? ⟨g, 1, none⟩ = some (.int .u64 (hi x.p : Nat)) ∧ W.cell? ⟨g, 2, none⟩ = some (.int .u64 (lo x.p : Nat))
set_option maxRecDepth 100000 in
set_option maxHeartbeats 2000000 in
theorem own_any {q : Option Go.Addr} {c : Nat} {l : List Lz} (kind : Int) (hl : l.length ≤ 1000) (w : World) (hv : LstZ q l w) :
    Calls Tryz.prog 14 #[.slice q l.length c, .int .i64 kind] w (MakesA w.heap.size (ownS l kind) w) := by
  have HV := hide (fun W (H : Below w.heap.size w W) => hv.step H)
  have FL := hide (fun k => Nat.le_trans (ownF_len (l.take k) kind) (by rw [List.length_take]; exact Nat.min_le_left k l.length))
  clear hv
  go_enter Tryz.func14, Tryz.ntmps14
  go_wp2
  go_loopw [5, 10] (fun s5 i wr => ∃ (k : Nat) (F : List Nat), k ≤ l.length ∧ i = .int .i64 (k : Nat) ∧ Below w.heap.size w wr ∧ OwnA wr w.heap.size s5 F ∧ Hid (F = ownF (l.take k) kind) ∧ F.length ≤ 1000) (fun _ i _ => l.length - (intOf i).toNat)
  case atStart => exact ⟨0, [], Nat.zero_le _, rfl, Below.refl _ _, ownA_nil _ _, hide rfl, by simp⟩
  case round =>
    obtain ⟨k, F, hk, rfl, HB, HO, HF, HFL⟩ := hrel
    by_cases hlt : k < l.length
    · obtain ⟨x, hx⟩ : ∃ x, l[k]? = some x := ⟨_, List.getElem?_eq_getElem hlt⟩
      have FT := hide (ownF_take hx kind)
      obtain ⟨b, o, e, x0, x1, x2, x3, x4, x5, x6, x7⟩ := HV.out _ HB k x hx
      subst e
      obtain ⟨ki, p, n, st, cl, ia, un⟩ := x
      simp only at x0 x1 x2 x3 x4 x5 x6 x7
      have B1 := HB.alloc HB.size (.cells #[.int .i64 ki, .int .u64 (hi p : Nat), .int .u64 (lo p : Nat), .int .i64 n, .int .i64 st, .string cl, .int .u32 (ia : Int), .int .i64 un] 45)
      have O1 := own_keep HO (below_alloc wr (.cells #[.int .i64 ki, .int .u64 (hi p : Nat), .int .u64 (lo p : Nat), .int .i64 n, .int .i64 st, .string cl, .int .u32 (ia : Int), .int .i64 un] 45))
      clear hx HO
      cases ek : (ki == kind) with
      | true =>
        have FN := hide (show ownF (l.take (k + 1)) kind = F ++ [p] by rw [FT.out, if_pos ek, HF.out])
        have LN : (F ++ [p]).length ≤ 1000 := by rw [← FN.out]; exact Nat.le_trans (FL.out (k + 1)) (by omega)
        have LN1 : F.length + 1 ≤ 1000000 := by simp at LN; omega
        have O2 := own_keep O1 (below_alloc _ (.cells #[.int .u64 (hi p : Nat), .int .u64 (lo p : Nat)] 31))
        have B2 := B1.alloc B1.size (.cells #[.int .u64 (hi p : Nat), .int .u64 (lo p : Nat)] 31)
        have Z2 := B2.size
        clear FT B1 O1
        go_wp2_with (at_builtin; go_loud (refine wpList_append_oneA rfl (.tmp 18) (.tmp 22) rfl w.heap.size _ F rfl O2 _ 1 p rfl (own_twoN (by simp)) LN1 Z2 ?_); intro gn cn w8 O8 B8 _ _; have HB8 := B2.trans B8; clear O2 B2 Z2 B8)
        go_roundw
        case rel => exact ⟨k + 1, F ++ [p], hlt, by go_num, HB8, by simpa using O8, hide FN.out.symm, LN⟩
        case measure => simp [intOf]; omega
      | false =>
        have FN := hide (show ownF (l.take (k + 1)) kind = F by rw [FT.out, if_neg (by simp only; rw [ek]; simp), HF.out])
        clear FT
        go_wp2
        go_roundw
        case rel => exact ⟨k + 1, F, hlt, by go_num, B1, O1, hide FN.out.symm, HFL⟩
        case measure => simp [intOf]; omega
    · have e : l.take k = l := List.take_of_length_le (by omega)
      have FE := hide (show F = ownF l kind by have := HF.out; rwa [e] at this)
      clear e HF
      have SA := hide (sort_anyA HO HB.size (by omega))
      clear HO
      go_wp2_with fail
      refine SA.out.mono ?_
      rintro e w2 ⟨rfl, R, hp, hr, _, hb2, O2⟩
      have UP := hide (show dedA R = ownS l kind by unfold ownS; rw [← FE.out]; exact dedA_up hp hr)
      have CA := hide (compact_any (by have := hp.length_eq; omega) w2 O2)
      have B2 := HB.trans hb2
      clear SA hp hr hb2 O2 FE
      go_wp2_with fail
      refine CA.out.mono ?_
      rintro e w3 ⟨v3, rfl, hb3, O3⟩
      rw [UP.out] at O3
      go_wp2
      go_ret
      exact ⟨_, rfl, B2.trans hb3, O3⟩
end Go.Proofs.YtfmhpnendcikoaaGreat
