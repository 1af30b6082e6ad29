/-
  The contract of the document's own row: the groups between colons, in a row of the call's own. Condition: the text has at most 65536 bytes.
-/
import Derived.Test.YtmapcllmiomelaaDoorTextG3
namespace Go.Proofs.YtmapcllmiomelaaDoor
open Go.RowKit Go.Joins

def u64V (n : Nat) : Value := .int .u64 (n : Int)
theorem infoU : (Tryd.prog.info? 26).map (fun i => (i.zero, i.size, i.bytes)) = some (some (.int .u64 0), 1, 8) := by kernel_rfl
theorem u64_one (x : Int) : ∀ u ∈ [Value.int .u64 x], u.oneCell' = true := fun u hu => by
  rw [List.mem_singleton] at hu; subst hu; rfl
def rwV (s : ByteArray) : List Nat := match rowS s with | some l => l | none => []
def rwO (s : ByteArray) : Bool := (rowS s).isSome
theorem rowS_none {s : ByteArray} (h : rowS s = none) : rwV s = [] ∧ rwO s = false := by unfold rwV rwO; rw [h]; exact ⟨rfl, rfl⟩
theorem rowS_some {s : ByteArray} {l : List Nat} (h : rowS s = some l) : rwV s = l ∧ rwO s = true := by unfold rwV rwO; rw [h]; exact ⟨rfl, rfl⟩
def OwnsR (s : ByteArray) (w : World) (e : Ending) (w' : World) : Prop := ∃ v, e = .returned (.tuple #[v, .bool (rwO s)]) ∧ Below w.heap.size w w' ∧ w'.ownsRow w.heap.size 26 1 v (rwV s).length ((rwV s).map u64V)
theorem splitS_len (c : UInt8) (s : ByteArray) : (splitS c s).length ≤ s.size + 1 := by
  rw [← List.length_map (f := (·.data.toList)), splitS_data]
  exact splitA_len c _ _ (Nat.le_refl _)

set_option maxRecDepth 100000 in
set_option maxHeartbeats 2000000 in
theorem rrow_any (s : ByteArray) (hs : s.size ≤ 65536) (w : World) : Calls Tryd.prog 31 #[.string s] w (OwnsR s w) := by
  obtain ⟨i0, hi, hz0, hz1, hz2⟩ := info_parts infoU
  have hown0 : (w.alloc (.cells #[] 26)).ownsRow w.heap.size 26 1 (.slice (some ⟨w.heap.size, 0, none⟩) 0 0) 0 [] := World.ownsRow_lit w #[] 0 (Nat.le_refl _) (by unfold maxLen; omega) rfl
  have hB0 := below_alloc w (.cells #[] 26)
  by_cases h0 : s.data.toList = []
  · have R := hide (rowS_some (show rowS s = some [] by unfold rowS; rw [if_pos h0]))
    have e2 : s.toList.isEmpty = true := by rw [ByteArray.toList_eq, h0]; rfl
    have e3 : s.toList = [] := by rw [ByteArray.toList_eq, h0]
    clear h0
    go_enter Tryd.func31, Tryd.ntmps31
    go_wp2
    go_ret2
    refine ⟨_, congrArg Ending.returned (tup2 rfl (bool_eq R.out.2.symm)), hB0, ?_⟩
    rw [R.out.1]
    exact hown0
  · have G := hide (show rowS s = mapAll (splitS 58 s) by unfold rowS; rw [if_neg h0])
    have C := hide (fun W => rcut_any s hs 58 W)
    have e2 : s.toList.isEmpty = false := by rw [ByteArray.toList_eq]; simpa using h0
    have e3 : (s.toList = []) = False := by rw [ByteArray.toList_eq]; simpa using h0
    have NL := splitS_len 58 s
    generalize splitS 58 s = ps at *
    have NP : ps.length ≤ 65537 := by omega
    clear h0 NL
    go_enter Tryd.func31, Tryd.ntmps31
    go_wp2_with fail
    refine (C.out _).mono ?_
    rintro e w1 ⟨g, cap, rfl, hb1, own1⟩
    have HR1 := row_of_own own1
    have HG1 := own1.lt g rfl
    have HO1 := own_keep hown0 hb1
    have HB1 := chain hB0 hb1
    have GN : w.heap.size ≠ g := by have := HG1.1; rw [World.size_alloc] at this; omega
    have GL := HG1.2
    clear own1 hb1 hown0 hB0 HG1 C
    go_wp2_with fail
    go_loopw [4, 6] (fun v iv wr => ∃ (k g2 cap2 : Nat) (pre : List Nat), k ≤ ps.length ∧ iv = .int .i64 k ∧ v = .slice (some ⟨g2, 0, none⟩) pre.length cap2 ∧ Hid (pre.length = k) ∧ g2 ≠ g ∧ g < wr.heap.size ∧
      Hid (rowS s = (mapAll (ps.drop k)).map (pre ++ ·)) ∧ wr.ownsRow w.heap.size 26 1 (.slice (some ⟨g2, 0, none⟩) pre.length cap2) pre.length (pre.map u64V) ∧ Below w.heap.size w wr ∧ Row g ps wr) (fun _ i _ => ps.length - (intOf i).toNat)
    case atStart => exact ⟨0, _, _, [], Nat.zero_le _, rfl, rfl, hide rfl, GN, GL, hide (by rw [G.out]; simp), HO1, HB1, HR1⟩
    case round =>
      clear HO1 HB1 HR1 GN GL
      obtain ⟨k, g2, cap2, pre, hk, rfl, rfl, HPL, gn, gl, E, hown, hb, hr⟩ := hrel
      by_cases hlt : k < ps.length
      · obtain ⟨x, hx⟩ : ∃ x, ps[k]? = some x := ⟨ps[k], List.getElem?_eq_getElem _⟩
        have hc := hr _ x hx
        have DG := hide (drop_get hx)
        clear hx
        cases hn : grp x.data.toList with
        | none =>
          have K := hide (grp_none hn)
          have R := hide (rowS_none (show rowS s = none by rw [E.out, DG.out]; unfold mapAll; rw [hn]; rfl))
          clear hn
          go_wp2_with fail
          refine (rgroup_any x _).mono ?_
          rintro e w3 ⟨rfl, hb3⟩
          rw [K.out.1, K.out.2]
          go_wp2
          go_ret2
          refine ⟨.slice none 0 0, congrArg Ending.returned (tup2 rfl (bool_eq R.out.2.symm)), chain hb hb3, ?_⟩
          rw [R.out.1]
          exact World.ownsRow_nil _ _ _ _
        | some y =>
          have K := hide (grp_some hn)
          have F := hide (show rowS s = (mapAll (ps.drop (k + 1))).map ((pre ++ [y]) ++ ·) by
            rw [E.out, DG.out]
            conv => lhs; unfold mapAll
            rw [hn]
            cases mapAll (ps.drop (k + 1)) with
            | none => rfl
            | some r => simp)
          clear hn
          go_wp2_with fail
          refine (rgroup_any x _).mono ?_
          rintro e w3 ⟨rfl, hb3⟩
          rw [K.out.1, K.out.2]
          have hA := (own_keep hown hb3).alloc (.cells #[.int .u64 (y : Nat)] 26)
          have HB3 := chain hb hb3
          have HB := HB3.alloc HB3.size (.cells #[.int .u64 (y : Nat)] 26)
          have HR3 := (hr.step hb3).step (below_alloc w3 (.cells #[.int .u64 (y : Nat)] 26))
          have GL3 : g < w3.heap.size := Nat.lt_of_lt_of_le gl hb3.size
          have NEWS := World.news_of_block (w := w3.alloc (.cells #[.int .u64 (y : Nat)] 26)) (heap_alloc_new w3 (.cells #[.int .u64 (y : Nat)] 26))
          have hbz := base_le hown
          clear hc hb3 hr hown hb HB3
          go_wp2_with (at_builtin; go_loud (refine wpList_append_lies _ rfl (.tmp 31) (.tmp 33) 62 rfl w.heap.size 26 i0 (.int .u64 0) 1 8 Tryd.underlying62 hi hz0 hz1 hz2 rfl (by decide) _ _ _ rfl hA ⟨w3.heap.size, 0, none⟩ 1 1 [.int .u64 (y : Nat)] rfl rfl NEWS (u64_one _) (by omega) (by unfold maxLen; have := HPL.out; omega) (by have := HPL.out; omega) HB.size _ rfl ?_); intro g4 cap4 w4 hown4 hgrow4 hat4 hlt4)
          have HB4 := HB.grown hgrow4 HB.size (fun j hj => by cases hj; exact hbz)
          have HR4 : Row g ps w4 := fun j z hj => by rw [hgrow4.cell (HR3 j z hj) (fun e => by cases e; exact gn rfl)]
          have G4 : g4 ≠ g := by
            rcases hat4 with e | e
            · cases e; exact gn
            · rw [World.size_alloc] at e; omega
          have GL4 : g < w4.heap.size := by
            have := hgrow4.size
            rw [World.size_alloc] at this
            omega
          clear NEWS hA HB hgrow4 HR3 hat4 hlt4
          go_wp2
          go_roundw
          case rel =>
            refine ⟨k + 1, g4, cap4, pre ++ [y], hlt, by go_num, by rw [List.length_append]; rfl, hide (by rw [List.length_append, HPL.out]; rfl), G4, GL4, F, ?_, HB4, HR4⟩
            rw [List.length_append, List.map_append]
            exact hown4
          case measure => simp [intOf]; omega
      · have R := hide (rowS_some (show rowS s = some pre by rw [E.out, List.drop_of_length_le (by omega)]; simp [mapAll]))
        go_wp2
        go_ret2
        refine ⟨_, congrArg Ending.returned (tup2 rfl (bool_eq R.out.2.symm)), hb, ?_⟩
        rw [R.out.1]
        exact hown
end Go.Proofs.YtmapcllmiomelaaDoor
