/-
  Rows of leases in memory; the contracts of the law's same (equal rows) and host. Condition: a row has fewer than 2^63 leases.
-/
import Derived.Test.YtpldkgollhbolaaGreatTbDv
import Derived.Test.YtpldkgollhbolaaGreatTbAp
namespace Go.Proofs.YtpldkgollhbolaaGreat
open Go.RowKit Go.Joins Go.Maps

variable {w w' V W W' : World} {t km om : Nat} {O : Nat → Prop} {v : Value} {E : List En} {L : List Ls}
def AtL (b o : Nat) (x : Ls) (W : World) : Prop := W.cell? ⟨b, o, none⟩ = some (.int .i64 x.kind) ∧ W.cell? ⟨b, o + 1, none⟩ = some (.int .u64 (hi x.p : Nat)) ∧ W.cell? ⟨b, o + 2, none⟩ = some (.int .u64 (lo x.p : Nat)) ∧
  W.cell? ⟨b, o + 3, none⟩ = some (.int .i64 x.n) ∧ W.cell? ⟨b, o + 4, none⟩ = some (.int .i64 x.st) ∧ W.cell? ⟨b, o + 5, none⟩ = some (.string x.cl) ∧ W.cell? ⟨b, o + 6, none⟩ = some (.int .u32 (x.ia : Int)) ∧ W.cell? ⟨b, o + 7, none⟩ = some (.int .i64 x.un)
theorem cell_fr {b i : Nat} {u : Value} {S : Nat → Prop} (f : Fr S W W') (hn : ¬ S b) (e : W.cell? ⟨b, i, none⟩ = some u) : W'.cell? ⟨b, i, none⟩ = some u := by
  have hb : b < W.heap.size := by
    rcases Nat.lt_or_ge b W.heap.size with h | h
    · exact h
    · unfold World.cell? at e; rw [Array.getElem?_eq_none h] at e; cases e
  rw [World.cell?_of_block (a := ⟨b, i, none⟩) (f.block b hb hn)]; exact e
theorem AtL.fr {b o : Nat} {x : Ls} {S : Nat → Prop} (h : AtL b o x W) (f : Fr S W W') (hn : ¬ S b) : AtL b o x W' := by
  obtain ⟨h0, h1, h2, h3, h4, h5, h6, h7⟩ := h
  exact ⟨cell_fr f hn h0, cell_fr f hn h1, cell_fr f hn h2, cell_fr f hn h3, cell_fr f hn h4, cell_fr f hn h5, cell_fr f hn h6, cell_fr f hn h7⟩
/-- a slice that reads as a row of leases -/
def LstL (p : Option Go.Addr) (l : List Ls) (W : World) : Prop := ∀ (k : Nat) (x : Ls), l[k]? = some x → ∃ b o, p = some ⟨b, o, none⟩ ∧ AtL b (o + k * 8) x W
theorem LstL.fr {p : Option Go.Addr} {l : List Ls} {S : Nat → Prop} (h : LstL p l W) (f : Fr S W W') (hn : ∀ b o, p = some ⟨b, o, none⟩ → ¬ S b) : LstL p l W' := fun k x hk => by
  obtain ⟨b, o, h1, h2⟩ := h k x hk
  exact ⟨b, o, h1, h2.fr f (hn b o h1)⟩
theorem LstL.step {p : Option Go.Addr} {l : List Ls} (h : LstL p l W) (hb : Below W.heap.size W W') : LstL p l W' := h.fr (Fr.ofBelow hb) (fun _ _ _ e => e)
theorem ResL.lst {R : List Ls} (h : ResL w W v R) : ∃ p c, v = .slice p R.length c ∧ LstL p R W ∧ ∀ b o, p = some ⟨b, o, none⟩ → R ≠ [] → w.heap.size ≤ b ∧ b < W.heap.size := by
  obtain ⟨p, c, rfl, h⟩ := h
  refine ⟨p, c, rfl, fun k x hk => ?_, fun b o e hn => ?_⟩
  · rcases h with rfl | ⟨g, rfl, h1, h2, h3⟩
    · cases hk
    · refine ⟨g, 0, rfl, ?_⟩
      have C := fun i hi => (holds_block h3 hk i hi).1
      rw [Nat.zero_add]
      exact ⟨C 0 (by omega), C 1 (by omega), C 2 (by omega), C 3 (by omega), C 4 (by omega), C 5 (by omega), C 6 (by omega), C 7 (by omega)⟩
  · rcases h with rfl | ⟨g, rfl, h1, h2, h3⟩
    · exact absurd rfl hn
    · cases e; exact ⟨h1, h2⟩
set_option maxRecDepth 100000 in
set_option maxHeartbeats 2000000 in
theorem same_any (p q : Option Go.Addr) (c d : Nat) (l : List Ls) (hm : l.length ≤ maxLen) (w : World) (hp : LstL p l w) (hq : LstL q l w) :
    Calls Tryz.prog 10 #[.slice p l.length c, .slice q l.length d] w (Gives (.bool true) w) := by
  have HM := hm
  unfold maxLen at HM
  have HP := hide hp
  have HQ := hide hq
  clear hp hq
  go_enter Tryz.func10, Tryz.ntmps10
  go_wp2_with fail
  go_loopw [5] (fun i wr => ∃ k : Nat, k ≤ l.length ∧ i = .int .i64 (k : Nat) ∧ Below w.heap.size w wr) (fun i _ => l.length - (intOf i).toNat)
  case atStart => exact ⟨0, Nat.zero_le _, rfl, Below.refl _ _⟩
  case round =>
    obtain ⟨k, hk, rfl, HB⟩ := hrel
    by_cases hlt : k < l.length
    · obtain ⟨x, hx⟩ : ∃ x, l[k]? = some x := ⟨_, List.getElem?_eq_getElem hlt⟩
      obtain ⟨b, o, rfl, x0, x1, x2, x3, x4, x5, x6, x7⟩ := HP.out.step HB k x hx
      obtain ⟨b2, o2, rfl, y0, y1, y2, y3, y4, y5, y6, y7⟩ := HQ.out.step HB k x hx
      have hlt2 : (k : Int) < (l.length : Int) := by omega
      have hk0 : (0 : Int) ≤ (k : Int) := by omega
      clear hx
      go_wp2_with fail
      go_quiet (fail)
      go_wp2
      go_roundw
      case rel => exact ⟨k + 1, hlt, by go_num, HB.trans ((below_drewN wr _).mono HB.size)⟩
      case measure => simp [intOf]; omega
    · have hlt2 : ¬ (k : Int) < (l.length : Int) := by omega
      go_wp2
      go_ret
      exact ⟨rfl, HB⟩
abbrev hostL (n : Nat) (c : ByteArray) (u : Int) : Ls := ⟨1, n, 128, 1, c, 0, u⟩
theorem host_any (n : Nat) (hn : n < 18446744073709551616) (c : ByteArray) (u : Int) (w : World) : Calls Tryz.prog 14 #[.int .u64 (n : Int), .string c, .int .i64 u] w (Gives (Lv (hostL n c u)) w) := by
  have H := hide (hi_small hn)
  have L := hide (lo_small hn)
  go_enter Tryz.func14, Tryz.ntmps14
  go_wp2
  exact bodyPost_ret (v := Lv (hostL n c u)) (by simp [results, Tryz.results14, go_sem, H.out, L.out]) rfl ⟨rfl, below_alloc _ _⟩
end Go.Proofs.YtpldkgollhbolaaGreat
