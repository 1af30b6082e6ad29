/-
  The contract of the document's own Cut: the parts between a byte's places, in a row of the call's own. Condition: the text has at most 65536 bytes.
-/
import Derived.Test.YtmapcllmiomelaaDoorTextG1
import Derived.Deep.AppendLies
namespace Go.Proofs.YtmapcllmiomelaaDoor
open Go.RowKit Go.Joins

theorem infoZ : (Tryd.prog.info? 9).map (fun i => (i.zero, i.size, i.bytes)) = some (some (.string ⟨#[]⟩), 1, 16) := by kernel_rfl
theorem str_one (x : ByteArray) : ∀ u ∈ [Value.string x], u.oneCell' = true := fun u hu => by
  rw [List.mem_singleton] at hu; subst hu; rfl
/-- the parts up to a place -/
theorem part_hit {c : UInt8} {s : ByteArray} {a i : Nat} (ha : a ≤ i) (hi : i < s.size) (hn : c ∉ (s.data.toList.drop a).take (i - a)) (hc : s[i] = c) :
    splitA c (s.data.toList.drop a) = (s.extract a i).data.toList :: splitA c (s.data.toList.drop (i + 1)) := by
  rw [Lib.extract_data, ← splitA_hit _ hn]
  congr 1
  have e : s.data.toList.drop a = (s.data.toList.drop a).take (i - a) ++ (s.data.toList.drop a).drop (i - a) := (List.take_append_drop _ _).symm
  rw [List.drop_drop, show a + (i - a) = i by omega, drop_one hi, hc] at e
  exact e
theorem part_no {c : UInt8} {s : ByteArray} {a i : Nat} (ha : a ≤ i) (hi : i < s.size) (hn : c ∉ (s.data.toList.drop a).take (i - a)) (hc : s[i] ≠ c) :
    c ∉ (s.data.toList.drop a).take (i + 1 - a) := by
  have h2 : i - a < (s.data.toList.drop a).length := by rw [List.length_drop, show s.data.toList.length = s.size from rfl]; omega
  rw [show i + 1 - a = (i - a) + 1 by omega, List.take_succ_eq_append_getElem h2, List.mem_append]
  rintro (h | h)
  · exact hn h
  · rw [List.mem_singleton, List.getElem_drop] at h
    refine hc ?_
    rw [h]
    have e : a + (i - a) = i := by omega
    simp only [e]
    rfl
theorem part_end {c : UInt8} {s : ByteArray} {a : Nat} (hn : c ∉ (s.data.toList.drop a).take (s.size - a)) : splitA c (s.data.toList.drop a) = [(s.extract a s.size).data.toList] := by
  rw [Lib.extract_data]
  have e : (s.data.toList.drop a).take (s.size - a) = s.data.toList.drop a := List.take_of_length_le (by rw [List.length_drop]; exact Nat.le_refl _)
  rw [e] at hn ⊢
  exact splitA_no hn
theorem parts_of {c : UInt8} {s : ByteArray} {ps : List ByteArray} (h : ps.map (·.data.toList) = splitA c s.data.toList) : ps = splitS c s := data_inj (h.trans (splitS_data c s).symm)

set_option maxRecDepth 100000 in
set_option maxHeartbeats 2000000 in
theorem rcut_any (s : ByteArray) (hs : s.size ≤ 65536) (c : UInt8) (w : World) : Calls Tryd.prog 27 #[.string s, .int .u8 (c.toNat : Int)] w fun e w' =>
    ∃ g cap : Nat, e = .returned (.slice (some ⟨g, 0, none⟩) (splitS c s).length cap) ∧ Below w.heap.size w w' ∧ w'.ownsRow w.heap.size 9 1 (.slice (some ⟨g, 0, none⟩) (splitS c s).length cap) (splitS c s).length ((splitS c s).map Value.string) := by
  obtain ⟨i0, hi, hz0, hz1, hz2⟩ := info_parts infoZ
  have hown0 : (w.alloc (.cells #[] 9)).ownsRow w.heap.size 9 1 (.slice (some ⟨w.heap.size, 0, none⟩) 0 0) 0 [] := World.ownsRow_lit w #[] 0 (Nat.le_refl _) (by unfold maxLen; omega) rfl
  have hB0 := below_alloc w (.cells #[] 9)
  go_enter Tryd.func27, Tryd.ntmps27
  go_wp2_with fail
  go_loopw [5, 6, 7] (fun v av iv wr => ∃ (k a g cap : Nat) (ps : List ByteArray), a ≤ k ∧ k ≤ s.size ∧ iv = .int .i64 k ∧ av = .int .i64 a ∧ v = .slice (some ⟨g, 0, none⟩) ps.length cap ∧ ps.length ≤ k ∧
      Hid (c ∉ (s.data.toList.drop a).take (k - a)) ∧ Hid (ps.map (·.data.toList) ++ splitA c (s.data.toList.drop a) = splitA c s.data.toList) ∧
      wr.ownsRow w.heap.size 9 1 (.slice (some ⟨g, 0, none⟩) ps.length cap) ps.length (ps.map Value.string) ∧ Below w.heap.size w wr) (fun _ _ i _ => s.size - (intOf i).toNat)
  case atStart => exact ⟨0, 0, _, _, [], Nat.le_refl _, Nat.zero_le _, rfl, rfl, rfl, Nat.zero_le _, hide (by simp), hide rfl, hown0, hB0⟩
  case round =>
    clear hown0 hB0
    obtain ⟨k, a, g, cap, ps, ha, hk, rfl, rfl, rfl, hps, HN, HE, hown, hb⟩ := hrel
    have H0 := hb.size
    by_cases hlt : k < s.size
    · by_cases hc : s[k] = c
      · have EQ : ((s[k].toNat : Int) == (c.toNat : Int)) = true := by rw [hc]; exact beq_self_eq_true _
        have PH := part_hit ha hlt HN.out hc
        have HE2 := hide (show (ps ++ [s.extract a k]).map (·.data.toList) ++ splitA c (s.data.toList.drop (k + 1)) = splitA c s.data.toList by
          rw [← HE.out, PH, List.map_append, List.append_assoc]; rfl)
        clear hc PH HE HN
        have hA := hown.alloc (.cells #[.string (s.extract a k)] 9)
        have HB := hb.alloc hb.size (.cells #[.string (s.extract a k)] 9)
        have NEWS := World.news_of_block (w := wr.alloc (.cells #[.string (s.extract a k)] 9)) (heap_alloc_new wr (.cells #[.string (s.extract a k)] 9))
        have hbz := base_le hown
        go_wp2_with (at_builtin; go_loud (refine wpList_append_lies _ rfl (.tmp 20) (.tmp 25) 50 rfl w.heap.size 9 i0 (.string ⟨#[]⟩) 1 16 Tryd.underlying50 hi hz0 hz1 hz2 rfl (by decide) _ _ _ rfl hA ⟨wr.heap.size, 0, none⟩ 1 1 [.string (s.extract a k)] rfl rfl NEWS (str_one _) (by omega) (by unfold maxLen; omega) (by omega) HB.size _ rfl ?_); intro g2 cap2 w2 hown2 hgrow2 _ _)
        have HB2 := HB.grown hgrow2 (by simp; have := hb.size; omega) (fun j hj => by cases hj; exact hbz)
        clear NEWS hA HB hgrow2
        go_wp2
        go_roundw
        case rel =>
          refine ⟨k + 1, k + 1, g2, cap2, ps ++ [s.extract a k], Nat.le_refl _, hlt, by go_num, by go_num, by rw [List.length_append]; rfl, by rw [List.length_append]; simp; omega, hide (by rw [Nat.sub_self]; simp), HE2, ?_, HB2⟩
          rw [List.length_append, List.map_append]; exact hown2
        case measure => simp [intOf]; omega
      · have EQ : ((s[k].toNat : Int) == (c.toNat : Int)) = false := by
          rw [beq_eq_false_iff_ne]
          intro e
          exact hc (UInt8.toNat_inj.1 (by omega))
        have HN2 := hide (part_no ha hlt HN.out hc)
        clear hc HN
        go_wp2
        go_roundw
        case rel => exact ⟨k + 1, a, g, cap, ps, by omega, hlt, by go_num, rfl, rfl, by omega, HN2, HE, hown, hb⟩
        case measure => simp [intOf]; omega
    · obtain rfl : k = s.size := by omega
      have PE := part_end HN.out
      have FIN := hide (parts_of (show (ps ++ [s.extract a s.size]).map (·.data.toList) = splitA c s.data.toList by rw [← HE.out, PE, List.map_append]; rfl))
      clear PE HE HN
      have hA := hown.alloc (.cells #[.string (s.extract a s.size)] 9)
      have HB := hb.alloc hb.size (.cells #[.string (s.extract a s.size)] 9)
      have NEWS := World.news_of_block (w := wr.alloc (.cells #[.string (s.extract a s.size)] 9)) (heap_alloc_new wr (.cells #[.string (s.extract a s.size)] 9))
      have hbz := base_le hown
      go_wp2_with (at_builtin; go_loud (refine wpList_append_lies _ rfl (.tmp 29) (.tmp 33) 50 rfl w.heap.size 9 i0 (.string ⟨#[]⟩) 1 16 Tryd.underlying50 hi hz0 hz1 hz2 rfl (by decide) _ _ _ rfl hA ⟨wr.heap.size, 0, none⟩ 1 1 [.string (s.extract a s.size)] rfl rfl NEWS (str_one _) (by omega) (by unfold maxLen; omega) (by omega) HB.size _ rfl ?_); intro g2 cap2 w2 hown2 hgrow2 _ _)
      have HB2 := HB.grown hgrow2 (by simp; have := hb.size; omega) (fun j hj => by cases hj; exact hbz)
      clear NEWS hA HB hgrow2
      have LE : (splitS c s).length = ps.length + 1 := by rw [← FIN.out, List.length_append]; rfl
      have ME : (splitS c s).map Value.string = ps.map Value.string ++ [.string (s.extract a s.size)] := by rw [← FIN.out, List.map_append]; rfl
      go_wp2
      go_ret
      rw [LE, ME]
      exact ⟨g2, cap2, rfl, HB2, hown2⟩
end Go.Proofs.YtmapcllmiomelaaDoor
