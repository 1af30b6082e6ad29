/-
  Contract of getGroups: the numbers of groups with colons between them. Conditions: the library's variables hold what is laid; the text is shorter than 2^32 - 15 bytes.
-/
import Derived.Test.YtmapcllmiomelaaDoorTextS
import Derived.Test.YtmapcllmiomelaaDoorTextG
namespace Go.Proofs.YtmapcllmiomelaaDoor
open Go.RowKit Go.Joins

def u16V (n : Nat) : Value := .int .u16 (n : Int)
theorem infoG : (Tryd.prog.info? 59).map (fun i => (i.zero, i.size, i.bytes)) = some (some (.int .u16 0), 1, 2) := by kernel_rfl
/-- the pieces between colons, nine at most -/
def cols (s : ByteArray) : List ByteArray := Lib.splitB ⟨#[58]⟩ 0 (min 9 (s.size + 1) - 1) s
def mapAll : List ByteArray → Option (List Nat)
  | [] => some []
  | p :: r => match grp p.data.toList with
    | some n => (mapAll r).map (n :: ·)
    | none => none
def row6 (s : ByteArray) : Option (List Nat) := if s.data.toList = [] then some [] else mapAll (cols s)
def r6V (s : ByteArray) : List Nat := match row6 s with | some l => l | none => []
def r6O (s : ByteArray) : Bool := (row6 s).isSome
theorem row6_none {s : ByteArray} (h : row6 s = none) : r6V s = [] ∧ r6O s = false := by unfold r6V r6O; rw [h]; exact ⟨rfl, rfl⟩
theorem row6_some {s : ByteArray} {l : List Nat} (h : row6 s = some l) : r6V s = l ∧ r6O s = true := by unfold r6V r6O; rw [h]; exact ⟨rfl, rfl⟩
theorem split_cols (s : ByteArray) (hs : Lim s.size) (w : World) (hv : VO w) :
    Calls Tryd.prog 26 #[.string s, .string ⟨#[58]⟩, .int .i64 9] w fun e w' =>
      e = .returned (.slice (some ⟨w.heap.size, 0, none⟩) (cols s).length (min 9 (s.size + 1))) ∧ Below w.heap.size w w' ∧ Row w.heap.size (cols s) w' ∧ w.heap.size < w'.heap.size := by
  obtain ⟨⟨m, h1⟩, _⟩ := id hv
  refine (Tryd.strings_SplitN s ⟨#[58]⟩ 9 m w (by unfold Lim at hs; omega) h1 (by decide) (by omega) (by omega)).mono ?_
  rintro e w' ⟨rfl, rfl⟩
  exact ⟨rfl, below_alloc _ _, row_new _ _ _ _, by simp⟩
theorem cols_le (s : ByteArray) : (cols s).length ≤ 9 := by
  have := Lib.splitB_length_le ⟨#[58]⟩ 0 (min 9 (s.size + 1) - 1) s
  unfold cols
  omega

theorem own_keep {W w2 : World} {base n size : Nat} {e : TypeId} {v : Value} {xs : List Value} (h : W.ownsRow base e size v n xs) (hb : Below W.heap.size W w2) : w2.ownsRow base e size v n xs := by
  refine ⟨h.1, ?_⟩
  rcases h.2 with h2 | ⟨g, cap, cur, hv, hg0, hg, hr⟩
  · exact Or.inl h2
  · have hlt : g < W.heap.size := by
      rcases Nat.lt_or_ge g W.heap.size with h' | h'
      · exact h'
      · rw [Array.getElem?_eq_none h'] at hg; cases hg
    exact Or.inr ⟨g, cap, cur, hv, hg0, by rw [hb.block g hlt]; exact hg, hr⟩
theorem row_set {g : Nat} {ps : List ByteArray} {W : World} (h : Row g ps W) {p : Go.Addr} (hp : g ≠ p.block) (u : Value) : Row g ps (W.setCell p u) := fun j x hj => by
  rw [World.cell?_of_block (w := W) (Below.heap_setCell W p u g hp)]
  exact h j x hj
/-- what getGroups leaves: its result owns the numbers -/
def Owns (s : ByteArray) (w : World) (e : Ending) (w' : World) : Prop := ∃ v, e = .returned (.tuple #[v, .bool (r6O s)]) ∧ Below w.heap.size w w' ∧ w'.ownsRow w.heap.size 59 1 v (r6V s).length ((r6V s).map u16V)
theorem set_next16 {pre : List Nat} {n b : Nat} (h : pre.length < n) : ((pre ++ List.replicate (n - pre.length) 0).map u16V).set pre.length (u16V b) = ((pre ++ [b]) ++ List.replicate (n - (pre.length + 1)) 0).map u16V := by
  rw [← List.map_set]
  congr 1
  rw [List.set_append_right _ _ (Nat.le_refl _), Nat.sub_self, show n - pre.length = (n - (pre.length + 1)) + 1 by omega, List.replicate_succ, List.set_cons_zero, List.append_assoc]
  rfl
theorem drop_get {ps : List ByteArray} {k : Nat} {x : ByteArray} (h : ps[k]? = some x) : ps.drop k = x :: ps.drop (k + 1) := by
  obtain ⟨hlt, rfl⟩ := List.getElem?_eq_some_iff.1 h
  exact List.drop_eq_getElem_cons hlt

set_option maxRecDepth 100000 in
set_option maxHeartbeats 1000000 in
theorem groups_any (s : ByteArray) (hs : Lim s.size) (w : World) (hv : VO w) :
    Calls Tryd.prog 29 #[.string s] w (Owns s w) := by
  obtain ⟨i0, hi, hz0, hz1, hz2⟩ := info_parts infoG
  by_cases h0 : s.data.toList = []
  · have R := hide (row6_some (show row6 s = some [] by unfold row6; rw [if_pos h0]))
    have e2 : s.toList.isEmpty = true := by rw [ByteArray.toList_eq, h0]; rfl
    have e3 : s.toList = [] := by rw [ByteArray.toList_eq, h0]
    clear h0
    go_enter Tryd.func29, Tryd.ntmps29
    go_wp2
    go_ret2
    refine ⟨.slice none 0 0, congrArg Ending.returned (tup2 rfl (bool_eq R.out.2.symm)), Below.refl _ _, ?_⟩
    rw [R.out.1]
    exact World.ownsRow_nil _ _ _ _
  · have G := hide (show row6 s = mapAll (cols s) by unfold row6; rw [if_neg h0])
    have C := hide (split_cols s hs w hv)
    have HL := hide (cols_le s)
    have e2 : s.toList.isEmpty = false := by rw [ByteArray.toList_eq]; simpa using h0
    have e3 : (s.toList = []) = False := by rw [ByteArray.toList_eq]; simpa using h0
    generalize hd : cols s = ps at *
    have HN := hide (show ∃ n, n = ps.length from ⟨_, rfl⟩)
    obtain ⟨n, hn⟩ := HN.out
    rw [← hn] at HL C
    have HN := hide hn
    clear h0 hd hn
    have n9 : (n : Int) ≤ 9 := by have := HL.out; omega
    go_enter Tryd.func29, Tryd.ntmps29
    go_wp2_with fail
    refine C.out.mono ?_
    rintro e w1 ⟨rfl, hb1, hr1, hg1⟩
    go_wp2_with (at_make; refine wpList_make_full _ rfl _ _ 56 rfl w.heap.size 59 i0 (.int .u16 0) 1 Tryd.underlying56 hi hz0 hz1 _ _ _ _ n rfl rfl rfl rfl ?b2 ?b3 hb1.size ?_)
    case b2 => rw [hz2]; omega
    case b3 => unfold maxLen; omega
    intro w2 hown2 hgrow2
    have hb2 := hb1.grown hgrow2 hb1.size (fun k h => by cases h)
    have hr2 : Row w.heap.size ps w2 := fun j x hj => by rw [hgrow2.cell (hr1 j x hj) (fun e => by cases e)]
    go_wp2_with fail
    generalize hg : w1.heap.size = g at *
    go_loopw [19] (fun i wr => ∃ (k : Nat) (pre : List Nat), k ≤ n ∧ i = .int .i64 k ∧ pre.length = k ∧ Hid (row6 s = (mapAll (ps.drop k)).map (pre ++ ·)) ∧
      wr.ownsRow w.heap.size 59 1 (.slice (some ⟨g, 0, none⟩) n n) n ((pre ++ List.replicate (n - k) 0).map u16V) ∧ Below w.heap.size w wr ∧ Row w.heap.size ps wr) (fun i _ => n - (intOf i).toNat)
    case atStart =>
      refine ⟨0, [], Nat.zero_le _, rfl, rfl, hide ?_, ?_, hb2, hr2⟩
      · rw [G.out]; simp
      · have e : (madeCells (Value.int .u16 0).cells (n * 1)).toList = (([] : List Nat) ++ List.replicate (n - 0) 0).map u16V := by
          show (madeCells #[Value.int .u16 0] (n * 1)).toList = _
          rw [toList_madeCells_one]
          simp [u16V]
        rw [← e, Nat.mul_one]; exact hown2
    case round =>
      clear hown2 hgrow2 hb2 hr2 hr1
      obtain ⟨k, pre, hk, rfl, rfl, E, hown, hb, hr⟩ := hrel
      by_cases hlt : pre.length < n
      · obtain ⟨x, hx⟩ : ∃ x, ps[pre.length]? = some x := ⟨ps[pre.length]'(by have := HN.out; omega), List.getElem?_eq_getElem _⟩
        have hc := hr _ x hx
        have DG := hide (drop_get hx)
        clear hx
        cases hn : grp x.data.toList with
        | none =>
          have K := hide (grp_none hn)
          have R := hide (row6_none (show row6 s = none by rw [E.out, DG.out]; unfold mapAll; rw [hn]; rfl))
          clear hn
          go_wp2_with fail
          refine (grp_any x _).mono ?_
          rintro e w3 ⟨rfl, hb3⟩
          rw [K.out.1, K.out.2]
          go_wp2
          go_ret2
          refine ⟨.slice none 0 0, congrArg Ending.returned (tup2 rfl (bool_eq R.out.2.symm)), chain hb hb3, ?_⟩
          rw [R.out.1]
          exact World.ownsRow_nil _ _ _ _
        | some y =>
          have K := hide (grp_some hn)
          have F := hide (show row6 s = (mapAll (ps.drop (pre.length + 1))).map ((pre ++ [y]) ++ ·) by
            rw [E.out, DG.out]
            conv => lhs; unfold mapAll
            rw [hn]
            cases mapAll (ps.drop (pre.length + 1)) with
            | none => rfl
            | some r => simp)
          clear hn
          go_wp2_with fail
          refine (grp_any x _).mono ?_
          rintro e w3 ⟨rfl, hb3⟩
          rw [K.out.1, K.out.2]
          have hown3 := own_keep hown hb3
          have FZ := hown3.frozenAt pre.length
          have CZ := hown3.cellAt pre.length (by omega)
          rw [List.getElem?_map, List.getElem?_append_right (by omega), Nat.sub_self, List.getElem?_replicate, if_pos (by omega)] at CZ
          have O := hide (hown3.stored pre.length (u16V y)).1
          rw [set_next16 hlt] at O
          clear hown3
          have BG := base_le hown
          go_wp2
          go_roundw
          case rel => exact ⟨pre.length + 1, pre ++ [y], by omega, by go_num, by simp, F, O.out, (chain hb hb3).setCell BG _, row_set (hr.step hb3) (by dsimp only; omega) _⟩
          case measure => simp [intOf]; omega
      · have e : pre.length = n := by omega
        have R := hide (row6_some (show row6 s = some pre by
          rw [E.out, List.drop_of_length_le (by have := HN.out; omega)]
          simp [mapAll]))
        rw [e, Nat.sub_self, List.replicate_zero, List.append_nil] at hown
        go_wp2
        go_ret2
        refine ⟨_, congrArg Ending.returned (tup2 rfl (bool_eq R.out.2.symm)), hb, ?_⟩
        rw [R.out.1, e]
        exact hown
end Go.Proofs.YtmapcllmiomelaaDoor
