/-
  The contracts of Sync, Cut. Conditions: an int is one of 64 bits, a string is no longer than an int, and fewer than 2^62 operations have been answered OK.
-/
import Derived.Test.YtnaedngbcndakaaFilH
namespace Go.Proofs.Ytnaedngbcndakaa
open Go.RowKit Go.Maps

variable {w w' w1 w2 w3 : World} {d m : Nat} {O : Nat → Prop} {D : DataW Unit} {fb : Nm → Nat} {sv : Nm → Value} {s : Dk}
theorem gr_up (h : w.heap.size ≤ w2.heap.size) : ∀ k, Gr O w2 w3 k → Gr O w w3 k := fun k h2 => by
  rcases h2 with h2 | h2
  · exact Or.inl h2
  · exact Or.inr ⟨Nat.le_trans h h2.1, h2.2⟩
/-- nothing but new memory has come of it -/
theorem acts_same (h : IsDsk w d O s) (F : Fr No w w2) (v : Value) : Acts w d O v s (.returned v) w2 := ⟨rfl, F.no, h.acts F.no (h.no F)⟩
/-- the power has gone -/
theorem acts_off {v : Value} {s' : Dk} (h : IsDsk w d O s) (F : Fr No w w2) (G : Fr O w2 w3 ∧ IsDsk w3 d (Gr O w2 w3) s') : Acts w d O v s' (.returned v) w3 :=
  ⟨rfl, F.no.trans G.1 (fun _ _ e => e), G.2.wider (gr_up F.size) (gr_lt h.lt (Nat.le_trans F.size G.1.size))⟩
theorem left0 (h : s.left = 0) : (s.left == 0) = true := by simpa using h
theorem leftN0 (h : ¬ s.left = 0) : (s.left == 0) = false := by simpa using h
theorem goD_off {a b : Dk} (h : a.left = 0) : goD a b = (60, offD a a.keep) := by unfold goD; rw [if_pos h]
theorem goD_go {a b : Dk} (h : ¬ a.left = 0) : goD a b = (0, tick b) := by unfold goD; rw [if_neg h]
theorem sync_nil (x : Nm) (w : World) : Calls Try.prog 49 #[.pointer none, St x] w (Tells w (.int .i64 2)) := by
  go_enter Try.func49, Try.ntmps49
  go_wp2_with (go_at_call 59; refine (find1_nil x w).mono ?_; rintro e w2 ⟨rfl, F⟩)
  go_ret
  exact ⟨rfl, F⟩
set_option maxRecDepth 100000 in
set_option maxHeartbeats 1000000 in
theorem sync_any (h : IsDsk w d O s) (hst : s.steps < 4611686018427387904) {x : Nm} (hx : x.length ≤ maxLen) : Calls Try.prog 49 #[Pt d, St x] w (Acts w d O (.int .i64 (syncD s x).1) (syncD s x).2) := by
  have bad : ∀ c, checkI s [x] = c → (c == 0) = false → syncD s x = (c, s) → Calls Try.prog 49 #[Pt d, St x] w (Acts w d O (.int .i64 (syncD s x).1) (syncD s x).2) := fun c h1 h2 h3 => by
    rw [h3]
    have C := hide (find1_bad h hx h1 h2)
    have h4 : ¬ c = 0 := by simpa using h2
    have H := hide h
    clear h h1 h2 h3 hx
    go_enter Try.func49, Try.ntmps49
    go_wp2_with (go_at_call 59; refine C.out.mono ?_; rintro e w2 ⟨rfl, F⟩)
    go_ret
    exact acts_same H.out F _
  rcases chk1 s x with ⟨h1, h2⟩ | ⟨h1, h2, h3⟩ | ⟨h1, h2, h3⟩
  · exact bad 60 h2 rfl (by unfold syncD; rw [h1]; rfl)
  · exact bad 61 h3 rfl (by unfold syncD; rw [h1, h2]; rfl)
  clear bad
  have H0 := hide h
  obtain ⟨m, D, fb, sv, h⟩ := h
  have H := hide h
  cases hf : find s.fs x with
  | none =>
    have E : syncD s x = (62, s) := by unfold syncD; rw [h1, h2, hf]; rfl
    have C := hide (find1_none h hx h3 hf)
    rw [E]
    clear h h1 h2 h3 hx hf E
    go_enter Try.func49, Try.ntmps49
    go_wp2_with (go_at_call 59; refine C.out.mono ?_; rintro e w2 ⟨rfl, F⟩)
    go_ret
    exact acts_same H0.out F _
  | some f =>
    have E : syncD s x = goD s { s with fs := putF ⟨x, f.data, f.data.length⟩ s.fs } := by unfold syncD; rw [h1, h2, hf]; rfl
    have C := hide (find1_yes h hx h3 hf)
    rw [E]
    have HDN := hide h1
    have HF := hide hf
    by_cases h0 : s.left = 0
    · rw [goD_off h0]
      have SO := fun w2 (F : Fr No w w2) => step_off (H0.out.no F) HDN.out h0
      have HS := hide SO
      clear SO h h1 h2 h3 hx hf E h0
      go_enter Try.func49, Try.ntmps49
      go_wp2_with (first
        | (go_at_call 59; refine C.out.mono ?_; rintro e w2 ⟨rfl, F⟩)
        | (go_at_call 54; refine (HS.out _ F).mono ?_; rintro e w3 ⟨rfl, G⟩))
      go_ret
      exact acts_off H0.out F G
    · rw [goD_go h0]
      have SO := fun w2 (F : Fr No w w2) => step_go (H.out.no F) (leftN0 h0) hst
      have HS := hide SO
      clear SO h h1 h2 h3 hx hf E h0
      go_enter Try.func49, Try.ntmps49
      go_wp2_with (first
        | (go_at_call 59; refine C.out.mono ?_; rintro e w2 ⟨rfl, F⟩)
        | (go_at_call 54; refine (HS.out _ F).mono ?_; rintro e w3 ⟨rfl, F3, D3⟩; obtain ⟨p, cap, hv⟩ := row_slice (D3.file x f HF.out).2.2; have FA := (D3.file x f HF.out).2; have c0 := cell_at FA.1 0; simp at c0; rw [hv] at c0; have TR := hide (trim_any FA (Nat.le_refl f.data.length)); clear hv FA; have HD3 := hide D3; clear D3)
        | (go_at_call 67; refine TR.out.mono ?_; rintro e w4 ⟨rfl, G1, v', G3, G4⟩))
      go_ret
      have hn := find_name HF.out
      have e1 : (⟨f.name, f.data.take f.data.length, f.data.length⟩ : Fl) = ⟨x, f.data, f.data.length⟩ := by rw [hn, List.take_length]
      rw [e1] at G3
      have ok := H.out.ok.ok f (find_mem HF.out)
      have D4 := HD3.out.refile HF.out G1 (fun i _ e => Or.inl e) G3 rfl ⟨Nat.le_refl _, ok.2.1, by rw [← hn]; exact ok.2.2⟩ (fun i hi => Or.inl (G4 i hi))
      have FF : Fr O w w4 := (F.no.trans F3 (fun i _ e => by rw [e]; exact H.out.own.1)).trans G1 (fun i _ e => by rw [e]; exact (H.out.own.2.2 x (by rw [HF.out]; rfl)).1)
      refine ⟨rfl, FF, IsDsk.wider ⟨_, _, _, _, D4⟩ (gr_up (Nat.le_trans F.size F3.size)) (gr_lt H0.out.lt FF.size)⟩
theorem cut_nil (x : Nm) (n : Int) (w : World) : Calls Try.prog 44 #[.pointer none, St x, .int .i64 n] w (Tells w (.int .i64 2)) := by
  go_enter Try.func44, Try.ntmps44
  go_wp2_with (go_at_call 59; refine (find1_nil x w).mono ?_; rintro e w2 ⟨rfl, F⟩)
  go_ret
  exact ⟨rfl, F⟩
set_option maxRecDepth 100000 in
set_option maxHeartbeats 1000000 in
theorem cut_any (h : IsDsk w d O s) (hst : s.steps < 4611686018427387904) {x : Nm} (hx : x.length ≤ maxLen) (n : Int) : Calls Try.prog 44 #[Pt d, St x, .int .i64 n] w (Acts w d O (.int .i64 (cutD s x n).1) (cutD s x n).2) := by
  have bad : ∀ c, checkI s [x] = c → (c == 0) = false → cutD s x n = (c, s) → Calls Try.prog 44 #[Pt d, St x, .int .i64 n] w (Acts w d O (.int .i64 (cutD s x n).1) (cutD s x n).2) := fun c h1 h2 h3 => by
    rw [h3]
    have C := hide (find1_bad h hx h1 h2)
    have h4 : ¬ c = 0 := by simpa using h2
    have H := hide h
    clear h h1 h2 h3 hx
    go_enter Try.func44, Try.ntmps44
    go_wp2_with (go_at_call 59; refine C.out.mono ?_; rintro e w2 ⟨rfl, F⟩)
    go_ret
    exact acts_same H.out F _
  rcases chk1 s x with ⟨h1, h2⟩ | ⟨h1, h2, h3⟩ | ⟨h1, h2, h3⟩
  · exact bad 60 h2 rfl (by unfold cutD; rw [h1]; rfl)
  · exact bad 61 h3 rfl (by unfold cutD; rw [h1, h2]; rfl)
  clear bad
  have H0 := hide h
  obtain ⟨m, D, fb, sv, h⟩ := h
  have H := hide h
  cases hf : find s.fs x with
  | none =>
    have E : cutD s x n = (62, s) := by unfold cutD; rw [h1, h2, hf]; rfl
    have C := hide (find1_none h hx h3 hf)
    rw [E]
    clear h h1 h2 h3 hx hf E
    go_enter Try.func44, Try.ntmps44
    go_wp2_with (go_at_call 59; refine C.out.mono ?_; rintro e w2 ⟨rfl, F⟩)
    go_ret
    exact acts_same H0.out F _
  | some f =>
    have C := hide (find1_yes h hx h3 hf)
    have HDN := hide h1
    have HF := hide hf
    have hfile := (h.file x f hf).2
    have CC : ∀ w2, Fr No w w2 → ∃ p cap, w2.cell? ⟨fb x, 0, none⟩ = some (.slice p f.data.length cap) := fun w2 F => by
      have FA := hfile.fr F (fun e => e) (fun _ _ e => e)
      obtain ⟨p, cap, hv⟩ := row_slice FA.2
      have c0 := cell_at FA.1 0
      simp at c0
      rw [hv] at c0
      exact ⟨p, cap, c0⟩
    have HC := hide CC
    have ok := H.out.ok.ok f (find_mem HF.out)
    have OK := hide ok
    clear CC hfile ok
    by_cases hbad : n < 0 ∨ (f.data.length : Int) < n
    · have E : cutD s x n = (1, s) := by unfold cutD; rw [h1, h2, hf]; simp only [Bool.false_eq_true, if_false, if_true]; rw [if_pos hbad]
      rw [E]
      clear h h1 h2 h3 hx hf E
      rcases hbad with hbad | hbad
      · go_enter Try.func44, Try.ntmps44
        go_wp2_with (go_at_call 59; refine C.out.mono ?_; rintro e w2 ⟨rfl, F⟩; obtain ⟨p, cap, c0⟩ := HC.out _ F)
        go_ret
        exact acts_same H0.out F _
      · have hb2 : ¬ n < 0 := by omega
        go_enter Try.func44, Try.ntmps44
        go_wp2_with (go_at_call 59; refine C.out.mono ?_; rintro e w2 ⟨rfl, F⟩; obtain ⟨p, cap, c0⟩ := HC.out _ F)
        go_ret
        exact acts_same H0.out F _
    have hb1 : ¬ n < 0 := fun e => hbad (Or.inl e)
    have hb2 : ¬ (f.data.length : Int) < n := fun e => hbad (Or.inr e)
    obtain ⟨k, rfl⟩ := Int.eq_ofNat_of_zero_le (show 0 ≤ n by omega)
    have hkl : k ≤ f.data.length := by omega
    have E : cutD s x (k : Int) = goD s { s with fs := putF ⟨x, f.data.take k, k⟩ s.fs } := by unfold cutD; rw [h1, h2, hf]; simp only [Bool.false_eq_true, if_false, if_true]; rw [if_neg hbad]; rfl
    rw [E]
    have HK := hide hkl
    clear hbad hkl
    by_cases h0 : s.left = 0
    · rw [goD_off h0]
      have SO := fun w2 (F : Fr No w w2) => step_off (H0.out.no F) HDN.out h0
      have HS := hide SO
      clear SO h h1 h2 h3 hx hf E h0
      go_enter Try.func44, Try.ntmps44
      go_wp2_with (first
        | (go_at_call 59; refine C.out.mono ?_; rintro e w2 ⟨rfl, F⟩; obtain ⟨p, cap, c0⟩ := HC.out _ F)
        | (go_at_call 54; refine (HS.out _ F).mono ?_; rintro e w3 ⟨rfl, G⟩))
      go_ret
      exact acts_off H0.out F G
    · rw [goD_go h0]
      have SO := fun w2 (F : Fr No w w2) => step_go (H.out.no F) (leftN0 h0) hst
      have HS := hide SO
      clear SO h h1 h2 h3 hx hf E h0
      go_enter Try.func44, Try.ntmps44
      go_wp2_with (first
        | (go_at_call 59; refine C.out.mono ?_; rintro e w2 ⟨rfl, F⟩; obtain ⟨p, cap, c0⟩ := HC.out _ F)
        | (go_at_call 54; refine (HS.out _ F).mono ?_; rintro e w3 ⟨rfl, F3, D3⟩; have FA := (D3.file x f HF.out).2; have TR := hide (trim_any FA HK.out); clear FA; have HD3 := hide D3; clear D3)
        | (go_at_call 67; refine TR.out.mono ?_; rintro e w4 ⟨rfl, G1, v', G3, G4⟩))
      go_ret
      have hn := find_name HF.out
      have e1 : (⟨f.name, f.data.take k, k⟩ : Fl) = ⟨x, f.data.take k, k⟩ := by rw [hn]
      rw [e1] at G3
      have ok := OK.out
      have hkl := HK.out
      have D4 := HD3.out.refile HF.out G1 (fun i _ e => Or.inl e) G3 rfl ⟨by show k ≤ (f.data.take k).length; rw [List.length_take]; omega, by show (f.data.take k).length ≤ _; rw [List.length_take]; have := ok.2.1; omega, by rw [← hn]; exact ok.2.2⟩ (fun i hi => Or.inl (G4 i hi))
      have FF : Fr O w w4 := (F.no.trans F3 (fun i _ e => by rw [e]; exact H.out.own.1)).trans G1 (fun i _ e => by rw [e]; exact (H.out.own.2.2 x (by rw [HF.out]; rfl)).1)
      refine ⟨rfl, FF, IsDsk.wider ⟨_, _, _, _, D4⟩ (gr_up (Nat.le_trans F.size F3.size)) (gr_lt H0.out.lt FF.size)⟩
theorem nameB_len {l : Nm} (h : nameB l = true) : l.length ≤ 32 := by
  unfold nameB at h
  simp at h
  exact h.1.2
theorem gr_up' {w4 w5 : World} (h : w.heap.size ≤ w3.heap.size) (h2 : w4.heap.size ≤ w5.heap.size) : ∀ k, Gr O w3 w4 k → Gr O w w5 k := fun k h3 => by
  rcases h3 with h3 | h3
  · exact Or.inl h3
  · exact Or.inr ⟨Nat.le_trans h h3.1, Nat.lt_of_lt_of_le h3.2 h2⟩
end Go.Proofs.Ytnaedngbcndakaa
