/-
  The contract of Open. Conditions: a string is no longer than an int, and fewer than 2^62 operations have been answered OK.
-/
import Derived.Test.YtnaedngbcndakaaWalL
namespace Go.Proofs.Ytnaedngbcndakaa
open Go.RowKit Go.Maps

variable {w w' w1 w2 w3 w4 w5 : World} {d g : Nat} {O : Nat → Prop} {s s' : Dk} {x p : Nm} {n : Nat} {b : Bool}
theorem RowS.fr {v : Value} {l : List Nm} {S : Nat → Prop} (h : RowS w v l) (F : Fr S w w') (hS : ∀ i, v.ownBlock = some i → ¬ S i) : RowS w' v l := by
  obtain ⟨p, cap, rfl, h2⟩ := h
  refine ⟨p, cap, rfl, fun j x hj => ?_⟩
  obtain ⟨b, rfl, h4⟩ := h2 j x hj
  refine ⟨b, rfl, ?_⟩
  have hl := World.block_lt_of_cell? w ⟨b, j, none⟩ h4
  rw [World.cell?_of_block (a := ⟨b, j, none⟩) (F.block b hl (hS b rfl))]
  exact h4
/-- a row that is read, with its spare room -/
def CapV (v : Value) (l : List Nm) : Prop := ∃ p cap, v = .slice p l.length cap ∧ l.length ≤ cap ∧ cap ≤ maxLen
def RowC (w : World) (v : Value) (l : List Nm) : Prop := RowS w v l ∧ CapV v l
theorem RowC.fr {v : Value} {l : List Nm} {S : Nat → Prop} (h : RowC w v l) (F : Fr S w w') (hS : ∀ i, v.ownBlock = some i → ¬ S i) : RowC w' v l := ⟨h.1.fr F hS, h.2⟩
theorem RowC.own {base n : Nat} {v : Value} {l : List Nm} (h : w.ownsRow base 9 1 v n (l.map St)) : RowC w v l := by
  refine ⟨RowS.own h, ?_⟩
  have hl : n = l.length := by have := h.1; simp at this; omega
  subst hl
  rcases h.2 with ⟨rfl, h0⟩ | ⟨g, cap, cur, rfl, _, _, h1, h2, _⟩
  · exact ⟨none, 0, by rw [h0], by omega, Nat.zero_le _⟩
  · exact ⟨_, cap, rfl, h1, h2⟩
/-- its beginning -/
theorem RowC.take {p : Option Go.Addr} {n cap : Nat} {l : List Nm} (h : RowC w (.slice p n cap) l) {m : Nat} (hm : m ≤ l.length) : RowS w (.slice p m cap) (l.take m) := by
  obtain ⟨⟨p2, c2, e, h2⟩, _⟩ := h
  cases e
  refine ⟨p, cap, by rw [List.length_take, Nat.min_eq_left hm], fun j x hj => h2 j x ?_⟩
  have hjm : j < m := by
    have := (List.getElem?_eq_some_iff.1 hj).1
    rw [List.length_take] at this; omega
  rwa [List.getElem?_take_of_lt hjm] at hj
theorem RowS.nil (w : World) : RowS w (.slice none 0 0) [] := ⟨none, 0, rfl, fun j x hj => by simp at hj⟩
/-- what a file has that is opened -/
def lopenD (x : Nm) (s : Dk) : Int × List Nm × Dk :=
  if (readD s x).2 = 0 ∨ (readD s x).2 = 62 then
    (if sizeL (scanL (readD s x).1) < (readD s x).1.length then ((cutD s x (sizeL (scanL (readD s x).1) : Nat)).1, scanL (readD s x).1, (cutD s x (sizeL (scanL (readD s x).1) : Nat)).2) else (0, scanL (readD s x).1, s))
  else ((readD s x).2, [], s)
def OpenBad (w : World) (d : Nat) (O : Nat → Prop) (c : Int) (s : Dk) (e : Ending) (w' : World) : Prop :=
  e = .returned (.tuple #[.pointer none, .slice none 0 0, .int .i64 c]) ∧ Fr O w w' ∧ IsDsk w' d (Gr O w w') s
def OpenOk (w : World) (d : Nat) (O : Nat → Prop) (x : Nm) (l : List Nm) (s : Dk) (e : Ending) (w' : World) : Prop :=
  ∃ (g : Nat) (v : Value) (O' : Nat → Prop), e = .returned (.tuple #[Pt g, v, .int .i64 0]) ∧ Fr O w w' ∧ w.heap.size ≤ g ∧ LogAt w' g d x (sizeL l) false ∧ RowC w' v l ∧ IsDsk w' d O' s ∧
    (∀ i, O' i → O i ∨ w.heap.size ≤ i) ∧ ¬ O' g ∧ ∀ i, v.ownBlock = some i → ¬ O' i ∧ i ≠ g ∧ w.heap.size ≤ i ∧ i < w'.heap.size
theorem read_len (h : DkOk s) (x : Nm) : (readD s x).1.length ≤ 1048576 := by
  unfold readD
  split
  · simp
  · split
    · split
      · simp
      · rename_i f hf
        exact (h.ok f (find_mem hf)).2.1
    · simp
set_option maxRecDepth 100000 in
theorem open_nil (x : Nm) (w : World) : Calls Try.prog 13 #[.pointer none, St x] w (Tells w (.tuple #[.pointer none, .slice none 0 0, .int .i64 2])) := by
  go_enter Try.func13, Try.ntmps13
  go_wp2_with fail
  refine (read_nil x w).mono ?_
  rintro e w2 ⟨rfl, F⟩
  go_wp2
  go_ret3
  exact ⟨rfl, F⟩
/-- the log lies in new memory, behind all -/
theorem open_made {q : List UInt8} {v : Value} (h : IsDsk w d O s) (F2 : Fr No w w2) (HS : w3.ownsRow w2.heap.size 9 1 v (scanL q).length ((scanL q).map St)) (B3 : Below w2.heap.size w2 w3) (F4 : Fr O w3 w4) (D4 : IsDsk w4 d (Gr O w3 w4) s') :
    OpenOk w d O x (scanL q) s' (.returned (.tuple #[Pt w4.heap.size, v, .int .i64 0])) (w4.alloc (.cells #[Pt d, St x, .int .i64 (sizeL (scanL q) : Nat), .bool false] 69)) := by
  have hlt := h.lt
  have z2 := F2.size
  have z3 := B3.size
  have z4 := F4.size
  have FA := Fr.alloc w4 (.cells #[Pt d, St x, .int .i64 (sizeL (scanL q) : Nat), .bool false] 69)
  have hv : ∀ i, v.ownBlock = some i → w2.heap.size ≤ i ∧ i < w3.heap.size := fun i hi => by
    rcases HS.2 with ⟨rfl, _⟩ | ⟨g, cap, cur, rfl, hg, hb, _⟩
    · simp [Value.ownBlock] at hi
    · obtain rfl : g = i := by simpa [Value.ownBlock] using hi
      exact ⟨hg, lt_of_block hb⟩
  have R3 : RowC w3 v (scanL q) := RowC.own HS
  refine ⟨w4.heap.size, v, Gr O w3 w4, rfl, ((F2.no.trans (Fr.ofBelow B3) (fun _ _ e => e.elim)).trans F4 (fun _ _ e => e)).andNo FA, by omega, (MapKept.heap_alloc w4 _).1, ?_, D4.no FA, fun i hi => ?_, fun e => ?_, fun i hi => ⟨fun e => ?_, ?_, ?_, ?_⟩⟩
  · exact (R3.fr F4 (fun i hi ho => by have := hv i hi; have := hlt i ho; omega)).fr FA (fun _ _ e => e)
  · rcases hi with hi | hi
    · exact Or.inl hi
    · exact Or.inr (by omega)
  · rcases e with e | e
    · have := hlt _ e; omega
    · omega
  · have := hv i hi
    rcases e with e | e
    · have := hlt _ e; omega
    · omega
  · have := hv i hi; omega
  · have := hv i hi; omega
  · have := hv i hi
    have := FA.size
    omega
set_option maxRecDepth 100000 in
set_option maxHeartbeats 1000000 in
theorem open_any (h : IsDsk w d O s) (hst : s.steps < 4611686018427387904) (hx : x.length ≤ maxLen) :
    Calls Try.prog 13 #[Pt d, St x] w (fun e w' => ((lopenD x s).1 ≠ 0 ∧ OpenBad w d O (lopenD x s).1 (lopenD x s).2.2 e w') ∨ ((lopenD x s).1 = 0 ∧ OpenOk w d O x (lopenD x s).2.1 (lopenD x s).2.2 e w')) := by
  have RD := hide (read_any h hx)
  have H := hide h
  have rl := read_len h.ok x
  by_cases hr : (readD s x).2 = 0 ∨ (readD s x).2 = 62
  · have SC := hide (fun W => scan_any (readD s x).1 (by omega) W)
    have CU := hide (fun w2 (F : Fr No w w2) => cut_any (h.no F) hst hx (sizeL (scanL (readD s x).1) : Nat))
    have sz := scan_size (readD s x).1
    by_cases hlt : sizeL (scanL (readD s x).1) < (readD s x).1.length
    · have E := hide (show lopenD x s = ((cutD s x (sizeL (scanL (readD s x).1) : Nat)).1, scanL (readD s x).1, (cutD s x (sizeL (scanL (readD s x).1) : Nat)).2) by unfold lopenD; rw [if_pos hr, if_pos hlt])
      rw [E.out]
      clear E h hst hx
      generalize (cutD s x (sizeL (scanL (readD s x).1) : Nat)).1 = c at *
      generalize (cutD s x (sizeL (scanL (readD s x).1) : Nat)).2 = s2 at *
      generalize (readD s x).1 = q at *
      generalize (readD s x).2 = c2 at *
      have MK := hide (fun (w2 w3 w4 : World) (v : Value) (F2 : Fr No w w2) (HS : w3.ownsRow w2.heap.size 9 1 v (scanL q).length ((scanL q).map St)) (B3 : Below w2.heap.size w2 w3) (F4 : Fr O w3 w4) (D4 : IsDsk w4 d (Gr O w3 w4) s2) => open_made (x := x) H.out F2 HS B3 F4 D4)
      unfold GivesScan at SC
      generalize sizeL (scanL q) = n at *
      have hlt2 : (n : Int) < (q.length : Int) := by omega
      by_cases hc : c = 0
      · subst hc
        rcases hr with hr | hr
        all_goals
          subst hr
          go_enter Try.func13, Try.ntmps13
          go_wp2_with fail
          refine RD.out.mono ?_
          rintro e w2 ⟨rfl, F2⟩
          go_wp2_with fail
          refine (SC.out w2).mono ?_
          rintro e w3 ⟨v, rfl, B3, HS⟩
          go_wp2_with fail
          refine (CU.out w3 (F2.andNo (Fr.ofBelow B3))).mono ?_
          rintro e w4 ⟨rfl, F4, D4⟩
          go_wp2
          go_ret3
          exact Or.inr ⟨by trivial, MK.out w2 w3 w4 v F2 HS B3 F4 D4⟩
      · rcases hr with hr | hr
        all_goals
          subst hr
          go_enter Try.func13, Try.ntmps13
          go_wp2_with fail
          refine RD.out.mono ?_
          rintro e w2 ⟨rfl, F2⟩
          go_wp2_with fail
          refine (SC.out w2).mono ?_
          rintro e w3 ⟨v, rfl, B3, HS⟩
          go_wp2_with fail
          refine (CU.out w3 (F2.andNo (Fr.ofBelow B3))).mono ?_
          rintro e w4 ⟨rfl, F4, D4⟩
          go_wp2
          go_ret3
          have FF := (F2.no (S := O)).trans (Fr.ofBelow B3) (fun _ _ e => e.elim)
          exact Or.inl ⟨hc, rfl, FF.trans F4 (fun _ _ e => e), D4.wider (fun i hi => by
            rcases hi with hi | hi
            · exact Or.inl hi
            · exact Or.inr ⟨Nat.le_trans FF.size hi.1, hi.2⟩) (gr_lt H.out.lt (Nat.le_trans FF.size F4.size))⟩
    · have E := hide (show lopenD x s = (0, scanL (readD s x).1, s) by unfold lopenD; rw [if_pos hr, if_neg hlt])
      rw [E.out]
      clear E hst hx CU
      generalize (readD s x).1 = q at *
      generalize (readD s x).2 = c2 at *
      have MK := hide (fun (w2 w3 : World) (v : Value) (F2 : Fr No w w2) (HS : w3.ownsRow w2.heap.size 9 1 v (scanL q).length ((scanL q).map St)) (B3 : Below w2.heap.size w2 w3) => open_made (x := x) H.out F2 HS B3 (Fr.refl _ w3) ((h.no (F2.andNo (Fr.ofBelow B3))).wider (fun _ e => Or.inl e) (gr_lt (fun k hk => Nat.lt_of_lt_of_le (h.lt k hk) (Nat.le_trans F2.size B3.size)) (Nat.le_refl _))))
      clear h
      unfold GivesScan at SC
      generalize sizeL (scanL q) = n at *
      have hlt2 : ¬ (n : Int) < (q.length : Int) := by omega
      rcases hr with hr | hr
      all_goals
        subst hr
        go_enter Try.func13, Try.ntmps13
        go_wp2_with fail
        refine RD.out.mono ?_
        rintro e w2 ⟨rfl, F2⟩
        go_wp2_with fail
        refine (SC.out w2).mono ?_
        rintro e w3 ⟨v, rfl, B3, HS⟩
        go_wp2
        go_ret3
        exact Or.inr ⟨by trivial, MK.out w2 w3 v F2 HS B3⟩
  · have E := hide (show lopenD x s = ((readD s x).2, [], s) by unfold lopenD; rw [if_neg hr])
    have h0 : ¬ (readD s x).2 = 0 := fun e => hr (Or.inl e)
    have h62 : ¬ (readD s x).2 = 62 := fun e => hr (Or.inr e)
    have b0 : ((readD s x).2 != 0) = true := by simpa using h0
    have b62 : ((readD s x).2 != 62) = true := by simpa using h62
    rw [E.out]
    clear E h hst hx hr
    generalize (readD s x).1 = q at *
    generalize (readD s x).2 = c2 at *
    go_enter Try.func13, Try.ntmps13
    go_wp2_with fail
    refine RD.out.mono ?_
    rintro e w2 ⟨rfl, F2⟩
    go_wp2
    go_ret3
    exact Or.inl ⟨h0, rfl, F2.no, H.out.acts F2.no (H.out.no F2)⟩
end Go.Proofs.Ytnaedngbcndakaa
