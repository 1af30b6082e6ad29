/-
  The contracts of the document's own place, check, Read, New, Down, Steps, On, Arm. Condition: a string is no longer than an int, an int is one of 64 bits (every value of the types is such).
-/
import Derived.Test.YtnaedngbcndakaaFilRa
namespace Go.Proofs.Ytnaedngbcndakaa
open Go.RowKit Go.Maps

variable {w w' w1 w2 w3 : World} {t : Nat} {v : Value} {O : Nat → Prop} {s s' : Dk} {l : List Fl}
/-- where a name stands; -1: nowhere -/
def plI (l : List Fl) (x : Nm) : Int := match l.findIdx? (fun f => decide (f.name = x)) with | some k => (k : Int) | none => -1
theorem pl_none {l : List Fl} {x : Nm} (h : find l x = none) : plI l x = -1 := by
  unfold plI
  rw [List.findIdx?_eq_none_iff.2 (fun f hf => by simpa using find_none.1 h f hf)]
theorem pl_at {l : List Fl} {x : Nm} {k : Nat} (hk : k < l.length) (h1 : l[k].name = x) (h2 : ∀ j (hj : j < k), (l[j]'(by omega)).name ≠ x) : plI l x = (k : Int) := by
  unfold plI
  have : l.findIdx? (fun f => decide (f.name = x)) = some k := by
    rw [List.findIdx?_eq_some_iff_getElem]
    exact ⟨hk, by simpa using h1, fun j hj => by simpa using h2 j hj⟩
  rw [this]
theorem pl_some {l : List Fl} {x : Nm} {f : Fl} (h : find l x = some f) : ∃ k : Nat, plI l x = (k : Int) ∧ ∃ hk : k < l.length, l[k] = f := by
  unfold plI
  cases hi : l.findIdx? (fun f => decide (f.name = x)) with
  | none =>
    have := List.findIdx?_eq_none_iff.1 hi f (find_mem h)
    simp [find_name h] at this
  | some k =>
    obtain ⟨hk, h1, h2⟩ := List.findIdx?_eq_some_iff_getElem.1 hi
    refine ⟨k, rfl, hk, ?_⟩
    have e : find l x = some l[k] := by
      unfold find
      rw [List.find?_eq_some_iff_getElem]
      exact ⟨h1, k, hk, rfl, fun j hj => by simpa using h2 j hj⟩
    rw [e] at h
    exact Option.some.inj h
set_option maxRecDepth 100000 in
set_option maxHeartbeats 1000000 in
theorem place_any (h : RefAt w t v O s) (x : Nm) : Calls Try.prog 56 #[Pt t, St x] w (Same (.int .i64 (plI s.fs x)) w) := by
  obtain ⟨c0, _⟩ := h.cs
  have HR := hide h.row
  obtain ⟨p, cap, rfl⟩ := h.row.form
  have HL := h.ok.len
  clear h
  generalize s.fs = l at *
  obtain ⟨n, hn⟩ : ∃ n, n = l.length := ⟨_, rfl⟩
  rw [← hn] at HR c0 HL
  have HN := hide hn
  clear hn
  go_enter Try.func56, Try.ntmps56
  go_wp2
  go_loop [5] (fun i => ∃ k : Nat, k ≤ n ∧ i = .int .i64 (k : Int) ∧ Hid (∀ j (hj : j < l.length), j < k → l[j].name ≠ x)) (fun i => n - (intOf i).toNat)
  case atStart => exact ⟨0, Nat.zero_le _, rfl, hide (fun j _ h => absurd h (Nat.not_lt_zero _))⟩
  case round =>
    obtain ⟨k, hk, rfl, HA⟩ := hrel
    by_cases hlt : k < n
    · have hlt2 : (k : Int) < (n : Int) := by omega
      have hkl : k < l.length := by rw [← HN.out]; exact hlt
      obtain ⟨g, cap2, ev, x0, _⟩ := HR.out.at hkl
      obtain ⟨rfl, h7, h8⟩ : p = some ⟨g, 0, none⟩ ∧ n = l.length ∧ cap = cap2 := by simpa using ev
      clear h7 h8 ev
      have P1 := hide (fun (e : l[k].name = x) => pl_at hkl e (fun j hj => HA.out j (by omega) hj))
      have P2 := hide (fun (e : l[k].name ≠ x) => show ∀ j (hj : j < l.length), j < k + 1 → l[j].name ≠ x from fun j hj hjk => by
        by_cases e2 : j = k
        · subst e2; exact e
        · exact HA.out j hj (by omega))
      generalize hy : l[k].name = y at *
      clear hy
      by_cases hxy : y = x
      · subst hxy
        have P3 := hide (P1.out rfl)
        clear P1 P2
        go_wp2
        go_ret
        exact ⟨congrArg Ending.returned (int_eq P3.out.symm), rfl⟩
      · have hxb : (y == x) = false := by simpa using hxy
        have P3 := hide (P2.out hxy)
        clear P1 P2 hxy
        go_wp2
        go_round
        case rel => exact ⟨k + 1, by omega, by go_num, P3⟩
        case measure => simp [intOf]; omega
    · have hlt2 : ¬ (k : Int) < (n : Int) := by omega
      have V := hide (show plI l x = -1 from pl_none (find_none.2 (fun f hf => by
        obtain ⟨j, hj, rfl⟩ := List.mem_iff_getElem.1 hf
        exact HA.out j hj (by have := HN.out; omega))))
      go_wp2
      go_ret
      exact ⟨congrArg Ending.returned (int_eq V.out.symm), rfl⟩
theorem rcheck_nil (x : Nm) (w : World) : Calls Try.prog 55 #[.pointer none, St x] w (Same (.int .i64 2) w) := by
  go_enter Try.func55, Try.ntmps55
  go_wp2
  go_ret
  exact ⟨rfl, rfl⟩
set_option maxRecDepth 100000 in
theorem rcheck_any (h : RefAt w t v O s) {x : Nm} (hx : x.length ≤ maxLen) : Calls Try.prog 55 #[Pt t, St x] w (Same (.int .i64 (checkI s [x])) w) := by
  obtain ⟨_, c1, _⟩ := h.cs
  have NM := hide (rname_any ⟨x.toArray⟩ (by rw [st_size]; exact hx) w)
  have e0 : (⟨x.toArray⟩ : ByteArray).data.toList = x := by simp
  rw [e0] at NM
  clear h e0
  rcases chk1 s x with ⟨h1, h2⟩ | ⟨h1, h2, h3⟩ | ⟨h1, h2, h3⟩
  · rw [h2]
    rw [h1] at c1
    clear h1 h2
    go_enter Try.func55, Try.ntmps55
    go_wp2
    go_ret
    exact ⟨rfl, rfl⟩
  · rw [h3]
    rw [h1] at c1
    rw [h2] at NM
    clear h1 h2 h3
    go_enter Try.func55, Try.ntmps55
    go_wp2_with (go_at_call 69; refine NM.out.mono ?_; rintro e w2 ⟨rfl, rfl⟩)
    go_ret
    exact ⟨rfl, rfl⟩
  · rw [h3]
    rw [h1] at c1
    rw [h2] at NM
    clear h1 h2 h3
    go_enter Try.func55, Try.ntmps55
    go_wp2_with (go_at_call 69; refine NM.out.mono ?_; rintro e w2 ⟨rfl, rfl⟩)
    go_ret
    exact ⟨rfl, rfl⟩
theorem rread_nil (x : Nm) (w : World) : Calls Try.prog 36 #[.pointer none, St x] w (Same (.tuple #[St [], .int .i64 2]) w) := by
  go_enter Try.func36, Try.ntmps36
  go_wp2_with (go_at_call 55; refine (rcheck_nil _ _).mono ?_; rintro e w2 ⟨rfl, rfl⟩)
  go_ret2
  exact ⟨rfl, rfl⟩
set_option maxRecDepth 100000 in
theorem rread_any (h : RefAt w t v O s) {x : Nm} (hx : x.length ≤ maxLen) : Calls Try.prog 36 #[Pt t, St x] w (Same (.tuple #[St (readD s x).1, .int .i64 (readD s x).2]) w) := by
  have bad : ∀ c, checkI s [x] = c → (c == 0) = false → readD s x = ([], c) → Calls Try.prog 36 #[Pt t, St x] w (Same (.tuple #[St (readD s x).1, .int .i64 (readD s x).2]) w) := fun c h1 h2 h3 => by
    rw [h3]
    have C := rcheck_any h hx
    rw [h1] at C
    have C := hide C
    have h4 : ¬ c = 0 := by simpa using h2
    clear h h1 h2 h3 hx
    go_enter Try.func36, Try.ntmps36
    go_wp2_with (go_at_call 55; refine C.out.mono ?_; rintro e w2 ⟨rfl, rfl⟩)
    go_ret2
    exact ⟨rfl, rfl⟩
  rcases chk1 s x with ⟨h1, h2⟩ | ⟨h1, h2, h3⟩ | ⟨h1, h2, h3⟩
  · exact bad 60 h2 rfl (by unfold readD; rw [h1]; rfl)
  · exact bad 61 h3 rfl (by unfold readD; rw [h1, h2]; rfl)
  · clear bad
    have C0 := rcheck_any h hx
    rw [h3] at C0
    have C := hide C0
    have P0 := place_any h x
    obtain ⟨c0, _⟩ := h.cs
    cases hf : find s.fs x with
    | none =>
      have E : readD s x = ([], 62) := by unfold readD; rw [h1, h2, hf]; rfl
      rw [pl_none hf] at P0
      have P := hide P0
      rw [E]
      clear C0 P0 h h1 h2 h3 hx hf E
      go_enter Try.func36, Try.ntmps36
      go_wp2_with (first
        | (go_at_call 55; refine C.out.mono ?_; rintro e w2 ⟨rfl, rfl⟩)
        | (go_at_call 56; refine P.out.mono ?_; rintro e w2 ⟨rfl, rfl⟩))
      go_ret2
      exact ⟨rfl, rfl⟩
    | some f =>
      have E : readD s x = (f.data, 0) := by unfold readD; rw [h1, h2, hf]; rfl
      obtain ⟨k, hk, hkl, hkf⟩ := pl_some hf
      rw [hk] at P0
      have P := hide P0
      obtain ⟨g, cap, rfl, x0, x1, x2, x3, x4⟩ := h.row.at hkl
      clear x0 x2
      rw [hkf] at x1
      have hlen := h.ok.len
      have HKL := hide hkl
      have hkl2 : (k : Int) < (s.fs.length : Int) := by omega
      rw [E]
      clear C0 P0 h h1 h2 h3 hx hf E hkl hkf hk
      go_enter Try.func36, Try.ntmps36
      go_wp2_with (first
        | (go_at_call 55; refine C.out.mono ?_; rintro e w2 ⟨rfl, rfl⟩)
        | (go_at_call 56; refine P.out.mono ?_; rintro e w2 ⟨rfl, rfl⟩))
      go_ret2
      exact ⟨rfl, rfl⟩
theorem rdown_nil (w : World) : Calls Try.prog 34 #[.pointer none] w (Same (.bool false) w) := by
  go_enter Try.func34, Try.ntmps34
  go_wp2
  go_ret
  exact ⟨rfl, rfl⟩
theorem rdown_any (h : RefAt w t v O s) : Calls Try.prog 34 #[Pt t] w (Same (.bool s.down) w) := by
  obtain ⟨_, c1, _⟩ := h.cs
  clear h
  go_enter Try.func34, Try.ntmps34
  go_wp2
  go_ret
  exact ⟨rfl, rfl⟩
theorem rsteps_nil (w : World) : Calls Try.prog 32 #[.pointer none] w (Same (.int .i64 0) w) := by
  go_enter Try.func32, Try.ntmps32
  go_wp2
  go_ret
  exact ⟨rfl, rfl⟩
theorem rsteps_any (h : RefAt w t v O s) : Calls Try.prog 32 #[Pt t] w (Same (.int .i64 (s.steps : Nat)) w) := by
  obtain ⟨_, _, _, _, c4, _⟩ := h.cs
  clear h
  go_enter Try.func32, Try.ntmps32
  go_wp2
  go_ret
  exact ⟨rfl, rfl⟩
theorem rnew_any (w : World) : Calls Try.prog 15 #[] w (fun e w' => e = .returned (Pt w.heap.size) ∧ Fr No w w' ∧ IsRef w' w.heap.size (fun k => w.heap.size ≤ k ∧ k < w'.heap.size) newD) := by
  go_enter Try.func15, Try.ntmps15
  go_wp2
  go_ret
  have h1 := (MapKept.heap_alloc w (.cells #[.slice none 0 0, .bool false, .int .i64 (-1), .int .i64 0, .int .i64 0] 75)).1
  refine ⟨rfl, Fr.alloc _ _, .slice none 0 0, ⟨⟨List.Pairwise.nil, (fun f hf => by cases hf), by show 0 ≤ 16; omega, ⟨by show (-1 : Int) ≤ -1; omega, by show (-1 : Int) ≤ _; omega⟩, ⟨by show _ ≤ (0 : Int); omega, by show (0 : Int) ≤ _; omega⟩⟩, h1, World.ownsRow_nil _ _ _ _, ⟨⟨Nat.le_refl _, lt_of_block h1⟩, (fun g hg => by cases hg)⟩, (fun k hk => hk.2)⟩⟩
/-- the disk's own cells are written -/
theorem RefAt.sets (h : RefAt w t v O s) (k : Fr (fun i => i = t) w w') (hz : w'.heap.size = w.heap.size) (hfs : s'.fs = s.fs) (hok : DkOk s') (hd : w'.heap[t]? = some (.cells #[v, .bool s'.down, .int .i64 s'.left, .int .i64 s'.keep, .int .i64 (s'.steps : Nat)] 75 (0, 0))) : RefAt w' t v O s' :=
  ⟨hok, hd, by rw [hfs]; exact h.row.fr k (fun i hi e => h.ne hi e.symm), h.own, fun i hi => by rw [hz]; exact h.lt i hi⟩
theorem ron_nil (w : World) : Calls Try.prog 26 #[.pointer none] w (Same (.tuple #[]) w) := by
  go_enter Try.func26, Try.ntmps26
  go_wp2
  go_end0
  exact ⟨rfl, rfl⟩
theorem ron_any (h : RefAt w t v O s) : Calls Try.prog 26 #[Pt t] w (ActsR w t O (.tuple #[]) (onD s)) := by
  obtain ⟨k0, k1, k2, k3, k4, kf⟩ := h.cs
  have f1 := kf 1
  have f2 := kf 2
  have H := hide h
  clear h kf
  go_enter Try.func26, Try.ntmps26
  go_wp2
  go_end0
  have Fst : Fr (fun i => i = t) w ((w.setCell ⟨t, 1, none⟩ (.bool false)).setCell ⟨t, 2, none⟩ (.int .i64 (-1))) := (Fr.set w ⟨t, 1, none⟩ _).trans (Fr.set _ ⟨t, 2, none⟩ _) (fun i _ e => e)
  have HF2 : Fr O w _ := Fst.mono (fun i _ e => by rw [e]; exact H.out.own.1)
  refine ⟨rfl, HF2, IsRef.acts ⟨v, H.out⟩ HF2 ⟨v, H.out.sets Fst (by simp) rfl (on_ok H.out.ok) ?_⟩⟩
  rw [set_block (set_block H.out.cells 1 _) 2]
  rfl
theorem rarm_nil (n keep : Int) (w : World) : Calls Try.prog 22 #[.pointer none, .int .i64 n, .int .i64 keep] w (Same (.tuple #[]) w) := by
  go_enter Try.func22, Try.ntmps22
  go_wp2
  go_end0
  exact ⟨rfl, rfl⟩
theorem rarm_any (h : RefAt w t v O s) {n keep : Int} (hn : I64 n) (hk : I64 keep) : Calls Try.prog 22 #[Pt t, .int .i64 n, .int .i64 keep] w (ActsR w t O (.tuple #[]) (armD s n keep)) := by
  obtain ⟨k0, k1, k2, k3, k4, kf⟩ := h.cs
  have f2 := kf 2
  have f3 := kf 3
  have H := hide h
  have ok := hide (arm_ok h.ok hn hk)
  clear h kf
  cases hdn : s.down with
  | true =>
    have E := hide (show armD s n keep = s by unfold armD; rw [hdn]; rfl)
    rw [hdn] at k1
    clear hdn
    go_enter Try.func22, Try.ntmps22
    go_wp2
    go_end0
    exact ⟨rfl, Fr.refl _ _, IsRef.acts ⟨v, H.out⟩ (Fr.refl _ _) (by rw [E.out]; exact ⟨v, H.out⟩)⟩
  | false =>
    have E := hide (show armD s n keep = { s with left := if n < 0 then -1 else n, keep := keep } by unfold armD; rw [hdn]; rfl)
    rw [hdn] at k1
    have HDN := hide hdn
    clear hdn
    by_cases hn0 : n < 0
    · have EL := hide (show (if n < 0 then -1 else n) = -1 from if_pos hn0)
      go_enter Try.func22, Try.ntmps22
      go_wp2
      go_end0
      have Fst : Fr (fun i => i = t) w (((w.setCell ⟨t, 2, none⟩ (.int .i64 n)).setCell ⟨t, 2, none⟩ (.int .i64 (-1))).setCell ⟨t, 3, none⟩ (.int .i64 keep)) := ((Fr.set w ⟨t, 2, none⟩ _).trans (Fr.set _ ⟨t, 2, none⟩ _) (fun i _ e => e)).trans (Fr.set _ ⟨t, 3, none⟩ _) (fun i _ e => e)
      have HF2 : Fr O w _ := Fst.mono (fun i _ e => by rw [e]; exact H.out.own.1)
      refine ⟨rfl, HF2, IsRef.acts ⟨v, H.out⟩ HF2 ⟨v, H.out.sets Fst (by simp) (by rw [E.out]) ok.out ?_⟩⟩
      rw [set_block (set_block (set_block H.out.cells 2 _) 2 _) 3, E.out, EL.out]
      rfl
    · have EL := hide (show (if n < 0 then -1 else n) = n from if_neg hn0)
      go_enter Try.func22, Try.ntmps22
      go_wp2
      go_end0
      have Fst : Fr (fun i => i = t) w ((w.setCell ⟨t, 2, none⟩ (.int .i64 n)).setCell ⟨t, 3, none⟩ (.int .i64 keep)) := (Fr.set w ⟨t, 2, none⟩ _).trans (Fr.set _ ⟨t, 3, none⟩ _) (fun i _ e => e)
      have HF2 : Fr O w _ := Fst.mono (fun i _ e => by rw [e]; exact H.out.own.1)
      refine ⟨rfl, HF2, IsRef.acts ⟨v, H.out⟩ HF2 ⟨v, H.out.sets Fst (by simp) (by rw [E.out]) ok.out ?_⟩⟩
      rw [set_block (set_block H.out.cells 2 _) 3, E.out, EL.out]
      rfl
end Go.Proofs.Ytnaedngbcndakaa
