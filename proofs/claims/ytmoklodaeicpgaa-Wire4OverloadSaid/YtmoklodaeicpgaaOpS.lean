/-
  The contract of Parse. Condition: each area has at most 2^60 bytes, a slice of areas at most 2^47.
-/
import Derived.Test.YtmoklodaeicpgaaOpQ
namespace Go.Proofs.Ytmoklodaeicpgaa
open Go.RowKit Go.Joins Go.Maps

/-- a row of strings that is read -/
def RowS (b o : Nat) (ar : List ByteArray) (W : World) : Prop := b < W.heap.size ∧ ∀ (j : Nat) (s : ByteArray), ar[j]? = some s → W.cell? ⟨b, o + j, none⟩ = some (.string s)
def LstS (v : Value) (ar : List ByteArray) (W : World) : Prop := (∃ p c, v = .slice p 0 c ∧ ar = []) ∨ ∃ b o c, v = .slice (some ⟨b, o, none⟩) ar.length c ∧ RowS b o ar W
theorem RowS.step {b o : Nat} {ar : List ByteArray} {W w2 : World} (h : RowS b o ar W) (hb : Below W.heap.size W w2) : RowS b o ar w2 := ⟨Nat.lt_of_lt_of_le h.1 hb.size, fun j x hj => keep_cell hb (h.2 j x hj)⟩
theorem LstS.step {v : Value} {ar : List ByteArray} {W w2 : World} (h : LstS v ar W) (hb : Below W.heap.size W w2) : LstS v ar w2 := by
  rcases h with h | ⟨b, o, c, h1, h2⟩
  · exact Or.inl h
  · exact Or.inr ⟨b, o, c, h1, h2.step hb⟩
theorem lstS_len {v : Value} {ar : List ByteArray} {W : World} (h : LstS v ar W) : ∃ p c, v = .slice p ar.length c := by
  rcases h with ⟨p, c, h, rfl⟩ | ⟨b, o, c, h, _⟩
  · exact ⟨p, c, h⟩
  · exact ⟨_, _, h⟩
theorem lstS_at {p : Option Go.Addr} {n c : Nat} {ar : List ByteArray} {W : World} (h : LstS (.slice p n c) ar W) {k : Nat} {s : ByteArray} (hx : ar[k]? = some s) : ∃ b o, p = some ⟨b, o, none⟩ ∧ b < W.heap.size ∧ W.cell? ⟨b, o + k, none⟩ = some (.string s) := by
  rcases h with ⟨_, _, _, rfl⟩ | ⟨b, o, c', hv, hr⟩
  · simp at hx
  · cases hv
    exact ⟨b, o, rfl, hr.1, hr.2 k s hx⟩
def ParseG (ar : List ByteArray) (w : World) (e : Ending) (w2 : World) : Prop := ∃ v, e = .returned (.tuple #[v, .int .i64 (parseE (ar.map lb) : Nat)]) ∧ Below w.heap.size w w2 ∧ OwnO w2 w.heap.size v (parseO (ar.map lb))
theorem parse_step {ar : List ByteArray} {k : Nat} {s : ByteArray} (h : ar[k]? = some s) (S : Gs) : parseL ((ar.drop k).map lb) S = if (readA (lb s) S).1 = 0 then parseL ((ar.drop (k + 1)).map lb) (readA (lb s) S).2 else readA (lb s) S := by
  obtain ⟨hk, rfl⟩ := List.getElem?_eq_some_iff.1 h
  rw [List.drop_eq_getElem_cons hk, List.map_cons]
  rfl
/-- what is gathered stands in new memory -/
theorem gat_new (w : World) : GAt ((w.alloc (.map #[] 0)).alloc (.cells #[.slice none 0 0, .map (some w.heap.size)] 70)) w.heap.size (w.heap.size + 1) [] := by
  have hs : (w.alloc (.map #[] 0)).heap.size = w.heap.size + 1 := by simp
  refine ⟨.slice none 0 0, w.heap.size, fun _ => none, ?_, ?_, ownB_nil _ _, fun c => Or.inl ⟨rfl, rfl⟩, fun c c2 v v2 _ h => (by cases h), fun c v h => (by cases h), Nat.le_succ _, Nat.le_refl _, ?_⟩
  · have := heap_alloc_new (w.alloc (.map #[] 0)) (.cells #[.slice none 0 0, .map (some w.heap.size)] 70)
    rw [hs] at this
    exact this
  · exact (MapB.made w).keep (Below.heap_alloc _ _ _ (by rw [hs]; exact Nat.lt_succ_self _))
  · exact (chain (below_alloc w _) (below_alloc _ _)).size
set_option maxRecDepth 100000 in
set_option maxHeartbeats 2000000 in
theorem parse_any {v : Value} {ar : List ByteArray} (hl : ar.length ≤ 9223372036854775807) (hs : ∀ s ∈ ar, s.size ≤ 1152921504606846976) (w : World) (hv : LstS v ar w) :
    Calls Try.prog 19 #[v] w (ParseG ar w) := by
  have HV := hide (fun W (H : Below w.heap.size w W) => hv.step H)
  have HS := hide hs
  obtain ⟨p, c, rfl⟩ := lstS_len hv
  have G0 := gat_new w
  have B0 : Below w.heap.size w ((w.alloc (.map #[] 0)).alloc (.cells #[.slice none 0 0, .map (some w.heap.size)] 70)) := chain (below_alloc w _) (below_alloc _ _)
  have MM := run_makeMap (P := Try.prog) 68 w
  clear hv hs
  go_enter Try.func19, Try.ntmps19
  go_wp2
  generalize (w.alloc (.map #[] 0)).alloc (.cells #[.slice none 0 0, .map (some w.heap.size)] 70) = W0 at *
  generalize hR : parseL (ar.map lb) [] = R at *
  have HR := hide hR
  have H0 : ∃ S2, GAt W0 w.heap.size (w.heap.size + 1) S2 ∧ GInv S2 ∧ parseL ((ar.drop 0).map lb) S2 = R := ⟨[], G0, ginv_nil, hR⟩
  clear hR G0
  go_loopw [12] (fun vi wr => ∃ k : Nat, k ≤ ar.length ∧ vi = .int .i64 (k : Nat) ∧ Below w.heap.size w wr ∧ Hid (∃ S2, GAt wr w.heap.size (w.heap.size + 1) S2 ∧ GInv S2 ∧ parseL ((ar.drop k).map lb) S2 = R)) (fun vi _ => ar.length - (intOf vi).toNat)
  case atStart => exact ⟨0, Nat.zero_le _, rfl, B0, hide H0⟩
  case round =>
    obtain ⟨k, hk, rfl, HB, HH⟩ := hrel
    clear H0 B0
    by_cases hlt : k < ar.length
    · obtain ⟨s, hx⟩ : ∃ s, ar[k]? = some s := ⟨_, List.getElem?_eq_getElem hlt⟩
      have hsz := HS.out s (List.mem_of_getElem? hx)
      obtain ⟨b, o, rfl, _, x1⟩ := lstS_at (HV.out _ HB) hx
      have PS := hide (parse_step hx)
      obtain ⟨S2, g1, g2, g3⟩ := HH.out
      have RD := hide (read_any s hsz wr g1 g2)
      have G3 := hide g3
      have G2 := hide g2
      clear HH g1 g2 g3 hx
      go_wp2_with fail
      refine RD.out.mono ?_
      rintro e w2 ⟨hb2, rfl, hg2⟩
      have HB2 := hide (HB.trans hb2)
      have g3 := G3.out
      rw [PS.out] at g3
      by_cases he : (readA (lb s) S2).1 = 0
      · have F := hide (show ∃ S3, GAt w2 w.heap.size (w.heap.size + 1) S3 ∧ GInv S3 ∧ parseL ((ar.drop (k + 1)).map lb) S3 = R by
          rw [if_pos he] at g3
          exact ⟨_, hg2 he, ginv_read _ _ _ G2.out, g3⟩)
        clear g3 hg2 hb2
        generalize (readA (lb s) S2).1 = n at *
        subst he
        go_wp2
        go_roundw
        case rel => exact ⟨k + 1, hlt, by go_num, HB2.out, F⟩
        case measure => simp [intOf]; omega
      · have F := hide (show parseE (ar.map lb) = (readA (lb s) S2).1 ∧ parseO (ar.map lb) = [] by
          rw [if_neg he] at g3
          unfold parseO parseE
          rw [HR.out, ← g3, if_neg he]
          exact ⟨rfl, rfl⟩)
        have E0 : ¬ ((readA (lb s) S2).1 : Int) = 0 := by omega
        generalize (readA (lb s) S2).1 = n at *
        clear g3 hg2 hb2 he
        go_wp2
        go_ret2
        exact ⟨_, congrArg Ending.returned (tup2 rfl (by rw [F.out.1]; rfl)), HB2.out, by rw [F.out.2]; exact ownO_nil _ _⟩
    · have F := hide (show ∃ S2, GAt wr w.heap.size (w.heap.size + 1) S2 ∧ GInv S2 ∧ parseE (ar.map lb) = 0 ∧ parseO (ar.map lb) = optsOf S2 by
        obtain ⟨S2, g1, g2, g3⟩ := HH.out
        rw [List.drop_of_length_le (by omega)] at g3
        have e : R = (0, S2) := g3.symm
        refine ⟨S2, g1, g2, ?_, ?_⟩
        · unfold parseE; rw [HR.out, e]
        · unfold parseO parseE; rw [HR.out, e, if_pos rfl])
      obtain ⟨S2, g1, g2, g3⟩ := F.out
      have GL := hide (glist_any wr g1 g2)
      have G3 := hide g3
      clear F HH g1 g2 g3
      go_wp2_with fail
      refine GL.out.mono ?_
      rintro e w2 ⟨v2, rfl, hb2, ho2⟩
      go_wp2
      go_ret2
      exact ⟨_, congrArg Ending.returned (tup2 rfl (by rw [G3.out.1]; rfl)), HB.trans (hb2.mono HB.size), by rw [G3.out.2]; exact ownO_base ho2 HB.size⟩
end Go.Proofs.Ytmoklodaeicpgaa
