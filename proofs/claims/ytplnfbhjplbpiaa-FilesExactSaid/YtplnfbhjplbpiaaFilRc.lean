/-
  The contracts of the document's own Safe, Names, goes, power, Off. Conditions: a string is no longer than an int, an int is one of 64 bits; fewer than 2^62 operations have been answered OK.
-/
import Derived.Test.YtplnfbhjplbpiaaFilRb
namespace Go.Proofs.Ytplnfbhjplbpiaa
open Go.RowKit Go.Maps

variable {w w' w1 w2 w3 : World} {t : Nat} {v : Value} {O : Nat → Prop} {s s' : Dk} {l : List Fl}
theorem rsafe_nil (x : Nm) (w : World) : Calls Try.prog 16 #[.pointer none, St x] w (Tells w (.int .i64 0)) := by
  go_enter Try.func16, Try.ntmps16
  go_wp2
  go_ret
  exact ⟨rfl, Fr.refl _ _⟩
set_option maxRecDepth 100000 in
set_option maxHeartbeats 1000000 in
theorem rsafe_any (h : RefAt w t v O s) (x : Nm) : Calls Try.prog 16 #[Pt t, St x] w (Tells w (.int .i64 (safeD s x : Nat))) := by
  obtain ⟨c0, _⟩ := h.cs
  have P0 := fun n => place_any (h.no (Fr.drewN w n)) x
  cases hf : find s.fs x with
  | none =>
    have E := hide (show safeD s x = 0 by unfold safeD; rw [hf])
    have P1 := place_any h x
    rw [pl_none hf] at P1
    have P := hide P1
    clear P0 P1 h hf
    go_enter Try.func16, Try.ntmps16
    go_wp2_with (go_at_call 39; refine P.out.mono ?_; rintro e w2 ⟨rfl, rfl⟩)
    go_ret
    exact ⟨congrArg Ending.returned (int_eq (by rw [E.out]; rfl)), Fr.refl _ _⟩
  | some f =>
    have E := hide (show safeD s x = f.safe by unfold safeD; rw [hf])
    obtain ⟨k, hk, hkl, hkf⟩ := pl_some hf
    have P1 := place_any h x
    rw [hk] at P1 P0
    have P := hide P1
    have PQ := hide (fun n => (P0 n).mono (fun e w' (k : Same _ _ e w') => (⟨k.1, k.2.symm⟩ : e = _ ∧ w' = w.drewN n)))
    obtain ⟨g, cap, rfl, x0, x1, x2, x3, x4⟩ := h.row.at hkl
    rw [hkf] at x2
    have hkl2 : (k : Int) < (s.fs.length : Int) := by omega
    clear x0 x1 x3 x4 P0 P1 h hf hkl hkf hk
    go_enter Try.func16, Try.ntmps16
    go_wp2_with (go_at_call 39; refine P.out.mono ?_; rintro e w2 ⟨rfl, rfl⟩)
    go_quiet ((go_at_call 39; exact Calls.quiet_of_same (PQ.out _)))
    go_wp2
    go_ret
    exact ⟨congrArg Ending.returned (int_eq (by rw [E.out])), Fr.drewN _ _⟩
theorem infoS : (Try.prog.info? 9).map (fun i => (i.zero, i.size, i.bytes)) = some (some (.string ⟨#[]⟩), 1, 16) := by kernel_rfl
theorem infoF : (Try.prog.info? 65).map (fun i => (i.zero, i.size, i.bytes)) = some (some (.agg #[.string ⟨#[]⟩, .string ⟨#[]⟩, .int .i64 0]), 3, 40) := by kernel_rfl
theorem info_of {T : TypeId} {z : Value} {a b : Nat} (h : (Try.prog.info? T).map (fun i => (i.zero, i.size, i.bytes)) = some (some z, a, b)) : ∃ i, Try.prog.info? T = some i ∧ i.zero = some z ∧ i.size = a ∧ i.bytes = b := by
  cases hi : Try.prog.info? T with
  | none => rw [hi] at h; cases h
  | some i =>
    rw [hi] at h
    simp at h
    exact ⟨i, rfl, h.1, h.2.1, h.2.2⟩
theorem one_new (W : World) (u : Value) (T : TypeId) : ∀ j x, [u][j]? = some x → (W.alloc (.cells #[u] T)).cell? ((⟨W.heap.size, 0, none⟩ : Go.Addr).add j) = some x := cell_one_new W u T
theorem own_lit (W : World) (T : TypeId) (size : Nat) : (W.alloc (.cells #[] T)).ownsRow W.heap.size T size (.slice (some ⟨W.heap.size, 0, none⟩) 0 0) 0 [] :=
  ⟨by simp, Or.inr ⟨W.heap.size, 0, #[], rfl, Nat.le_refl _, (MapKept.heap_alloc W _).1, Nat.le_refl _, by unfold maxLen; omega, by simp, by simp⟩⟩
theorem rnames_nil (w : World) : Calls Try.prog 19 #[.pointer none] w (GivesNames w []) := by
  have OL := own_lit w 9 1
  go_enter Try.func19, Try.ntmps19
  go_wp2
  go_loopw [3, 4] (fun lv i wr => lv = .slice (some ⟨w.heap.size, 0, none⟩) 0 0 ∧ i = .int .i64 0 ∧ wr = w.alloc (.cells #[] 9)) (fun _ _ _ => 0)
  case atStart => exact ⟨rfl, rfl, rfl⟩
  case round =>
    obtain ⟨rfl, rfl, rfl⟩ := hrel
    go_wp2
    go_ret
    exact ⟨_, rfl, Fr.alloc _ _, RowS.own (l := []) OL⟩
set_option maxRecDepth 100000 in
set_option maxHeartbeats 1000000 in
theorem rnames_any (h : RefAt w t v O s) : Calls Try.prog 19 #[Pt t] w (GivesNames w (names s.fs)) := by
  obtain ⟨i0, hi, hz0, hz1, hz2⟩ := info_of infoS
  obtain ⟨p, cap, rfl⟩ := h.row.form
  have HH := hide h
  have HL := h.ok.len
  have OL := own_lit w 9 1
  clear h
  generalize hnn : names s.fs = nn at *
  have HNN := hide hnn
  clear hnn
  obtain ⟨n, hn⟩ : ∃ n, n = s.fs.length := ⟨_, rfl⟩
  rw [← hn] at HH HL
  have HN := hide hn
  clear hn
  go_enter Try.func19, Try.ntmps19
  go_wp2
  go_loopw [3, 4] (fun lv i wr => ∃ (k : Nat) (q : Option Go.Addr) (cc : Nat), k ≤ n ∧ lv = .slice q k cc ∧ i = .int .i64 (k : Int) ∧ wr.ownsRow w.heap.size 9 1 (.slice q k cc) k ((nn.take k).map St) ∧ Fr No w wr) (fun _ i _ => n - (intOf i).toNat)
  case atStart => exact ⟨0, _, _, Nat.zero_le _, rfl, rfl, by simpa using OL, Fr.alloc _ _⟩
  case round =>
    clear OL
    obtain ⟨k, q, cc, hk, rfl, rfl, OW, hF⟩ := hrel
    have HR := HH.out.no hF
    obtain ⟨c0, _⟩ := HR.cs
    by_cases hlt : k < n
    · have hlt2 : (k : Int) < (n : Int) := by omega
      have hkl : k < s.fs.length := by rw [← HN.out]; exact hlt
      obtain ⟨g, cap2, ev, x0, x1, x2, x3, x4⟩ := HR.row.at hkl
      obtain ⟨rfl, h7, h8⟩ : p = some ⟨g, 0, none⟩ ∧ n = s.fs.length ∧ cap = cap2 := by simpa using ev
      have NX := hide (show nn.take k ++ [s.fs[k].name] = nn.take (k + 1) by
        have e1 : nn[k]'(by rw [← HNN.out]; unfold names; rw [List.length_map]; exact hkl) = s.fs[k].name := by
          have := HNN.out
          unfold names at this
          subst this
          simp
        rw [List.take_succ_eq_append_getElem (by rw [← HNN.out]; unfold names; rw [List.length_map]; exact hkl), e1])
      clear h7 h8 ev x1 x2 x3 HR
      generalize s.fs[k].name = y at *
      have AW := OW.alloc (.cells #[St y] 9)
      have hsz := hF.size
      go_wp2_with (at_builtin; refine wpList_append_lies _ rfl _ _ 34 rfl w.heap.size 9 i0 (.string ⟨#[]⟩) 1 16 Try.underlying34 hi hz0 hz1 hz2 rfl (by decide) _ k _ rfl AW ⟨wr.heap.size, 0, none⟩ 1 1 [St y] rfl rfl (one_new wr (St y) 9) (fun u hu => by simp at hu; subst hu; rfl) (by decide) (by unfold maxLen; omega) (by omega) (by simp; omega) _ rfl ?_; intro g3 cap3 w3 O3 G3 L3 L4)
      have F3 : Fr No w w3 := (hF.andNo (Fr.alloc _ _)).trans (Fr.grown G3) (fun i hi e => by have := (AW.lt i e.symm).1; omega)
      rw [← List.map_singleton, ← List.map_append, NX.out] at O3
      clear AW OW L3 L4 G3
      go_wp2
      go_roundw
      case rel => exact ⟨k + 1, some ⟨g3, 0, none⟩, cap3, by omega, rfl, by go_num, O3, F3⟩
      case measure => simp [intOf]; omega
    · have hlt2 : ¬ (k : Int) < (n : Int) := by omega
      have E : nn.take k = nn := List.take_of_length_le (by rw [← HNN.out]; unfold names; rw [List.length_map]; have := HN.out; omega)
      rw [E] at OW
      have EL := hide (show k = nn.length by rw [← HNN.out]; unfold names; rw [List.length_map]; have := HN.out; omega)
      have HOW := hide OW
      clear OW E
      go_wp2
      go_ret
      exact ⟨_, rfl, hF, RowS.own HOW.out⟩
end Go.Proofs.Ytplnfbhjplbpiaa
