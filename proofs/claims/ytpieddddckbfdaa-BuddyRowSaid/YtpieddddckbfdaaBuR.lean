/-
  Contract of Reserve. Conditions: the words are words of 64 bits, an int is an int of 64 bits; at most 100000 prefixes.
-/
import Derived.Test.YtpieddddckbfdaaBuT
namespace Go.Proofs.Ytpieddddckbfdaa
open Go.RowKit Go.Joins

/-- what Reserve, Give and Free give: a list of the call's own, an error -/
def GivesE (a : Ans) (w : World) (e : Ending) (w' : World) : Prop := ∃ v, e = .returned (.tuple #[v, .int .i64 a.2]) ∧ Below w.heap.size w w' ∧ Own w' w.heap.size v a.1
/-- two boxes and a list -/
def HE (w : World) (p b : Bk) (v : Value) (l : List Bk) (W : World) : Prop := HH w p b W ∧ Lst v l W
theorem HE.step {w : World} {p b : Bk} {v : Value} {l : List Bk} {W w2 : World} (h : HE w p b v l W) (hb : Below W.heap.size W w2) : HE w p b v l w2 := ⟨h.1.step hb, h.2.step hb⟩
theorem he_new (w : World) (p b : Bk) {v : Value} {l : List Bk} (h : Lst v l w) : HE w p b v l ((w.alloc (.cells #[.int .u64 (hi p.1 : Nat), .int .u64 (lo p.1 : Nat), .int .i64 p.2] 26)).alloc (.cells #[.int .u64 (hi b.1 : Nat), .int .u64 (lo b.1 : Nat), .int .i64 b.2] 26)) :=
  ⟨hh_new w p b _, h.step (hh_new w p b 26).1⟩
theorem idx_find (b : Bk) (l : List Bk) : idxI (fun x => covB x b) l = bestI (findC b l) := by
  unfold idxI findC bestI
  cases l.findIdx? (fun x => covB x b) <;> rfl
theorem reserve_bad {p b : Bk} {L : List Bk} (h : goodL p L = false ∨ covB p b = false) : reserveL p L b = ([], 1) := by
  unfold reserveL
  rw [if_neg]
  rw [Bool.and_eq_true]
  rintro ⟨h1, h2⟩
  rcases h with h | h
  · rw [h] at h1; cases h1
  · rw [h] at h2; cases h2
theorem give_bad {p b : Bk} {L : List Bk} (h : goodL p L = false ∨ covB p b = false) : giveL p L b = ([], 1) := by
  unfold giveL
  rw [if_neg]
  rw [Bool.and_eq_true]
  rintro ⟨h1, h2⟩
  rcases h with h | h
  · rw [h] at h1; cases h1
  · rw [h] at h2; cases h2
theorem reserve_ok {p b : Bk} {L : List Bk} (h1 : goodL p L = true) (h2 : covB p b = true) : reserveL p L b = match findC b L with
    | none => ([], 110)
    | some j => (withoutL L j (L.getD j (0, 0)) b, 0) := by
  unfold reserveL
  rw [h1, h2]
  rfl
set_option maxRecDepth 100000 in
set_option maxHeartbeats 2000000 in
theorem reserve_any {v : Value} {p b : Bk} {l : List Bk} (fp : FitB p) (fb : FitB b) (hf : FitL l) (hl : l.length ≤ 100000) (w : World) (hv : Lst v l w) :
    Calls Try.prog 15 #[Bv p, v, Bv b] w (GivesE (reserveL p l b) w) := by
  have GD := hide (fun W v (H : Lst v l W) => good_any fp hf (show l.length ≤ 1000000 by omega) W H)
  have CV := hide (fun W => covers_any (p := p.1) fb.1 p.2 b.2 W)
  have IX := hide (fun W (H : HE w p b v l W) => index_any 37 #[.pointer (some ⟨w.heap.size + 1, 0, none⟩)] (fun x => covB x b) (show l.length ≤ 1000000 by omega) W H.2 enters_res
    (fun W2 HB x _ => res1_any fb x W2 (H.1.2.2.step HB)))
  rw [idx_find] at IX
  have H0 := he_new w p b hv
  obtain ⟨q, c, rfl⟩ := lst_len hv
  clear hv
  cases hg : goodL p l with
  | false =>
    rw [hg] at GD
    rw [reserve_bad (Or.inl hg)]
    clear hg IX CV
    go_enter Try.func15, Try.ntmps15
    obtain ⟨z, ⟨x1, x2, x3⟩, _⟩ := H0.1.all
    go_wp2_with fail
    clear z x1 x2 x3
    refine (GD.out _ _ H0.2).mono ?_
    rintro e w1 ⟨rfl, hb1⟩
    have H1 := H0.step hb1
    clear H0 hb1
    go_wp2
    go_ret2
    exact ⟨_, rfl, H1.1.1, own_nil _ _⟩
  | true =>
    rw [hg] at GD
    cases hc : covB p b with
    | false =>
      rw [show coversS p.1 p.2 b.1 b.2 = false from hc] at CV
      rw [reserve_bad (Or.inr hc)]
      clear hg IX hc
      go_enter Try.func15, Try.ntmps15
      obtain ⟨z, ⟨x1, x2, x3⟩, _⟩ := H0.1.all
      go_wp2_with fail
      clear z x1 x2 x3
      refine (GD.out _ _ H0.2).mono ?_
      rintro e w1 ⟨rfl, hb1⟩
      have H1 := H0.step hb1
      clear H0 hb1
      obtain ⟨z, ⟨x1, x2, x3⟩, ⟨y1, y2, y3⟩⟩ := H1.1.all
      go_wp2_with fail
      clear z x1 x2 x3 y1 y2 y3
      refine (CV.out _).mono ?_
      rintro e w2 ⟨rfl, hb2⟩
      have H2 := H1.step hb2
      clear H1 hb2
      go_wp2
      go_ret2
      exact ⟨_, rfl, H2.1.1, own_nil _ _⟩
    | true =>
      rw [show coversS p.1 p.2 b.1 b.2 = true from hc] at CV
      rw [reserve_ok hg hc]
      cases hx : findC b l with
      | none =>
        rw [hx, show bestI none = -1 from rfl] at IX
        clear hg hx hc
        go_enter Try.func15, Try.ntmps15
        obtain ⟨z, ⟨x1, x2, x3⟩, _⟩ := H0.1.all
        go_wp2_with fail
        clear z x1 x2 x3
        refine (GD.out _ _ H0.2).mono ?_
        rintro e w1 ⟨rfl, hb1⟩
        have H1 := H0.step hb1
        clear H0 hb1
        obtain ⟨z, ⟨x1, x2, x3⟩, ⟨y1, y2, y3⟩⟩ := H1.1.all
        go_wp2_with fail
        clear z x1 x2 x3 y1 y2 y3
        refine (CV.out _).mono ?_
        rintro e w2 ⟨rfl, hb2⟩
        have H2 := H1.step hb2
        clear H1 hb2
        go_wp2_with fail
        refine (IX.out _ H2).mono ?_
        rintro e w3 ⟨rfl, hb3⟩
        have H3 := H2.step hb3
        clear H2 hb3
        go_wp2
        go_ret2
        exact ⟨_, rfl, H3.1.1, own_nil _ _⟩
      | some j =>
        rw [hx, show bestI (some j) = (j : Int) from rfl] at IX
        obtain ⟨hj, hcx⟩ := find_some hx
        have hjx := getD_mem hj
        have fx := fit_at hf hjx
        change Calls _ _ _ _ (GivesE (withoutL l j (l.getD j (0, 0)) b, 0) w)
        generalize l.getD j (0, 0) = x at *
        have WO := hide (fun W v (H : Lst v l W) => without_any hjx fx.1 hcx hl W H)
        have J1 : ¬ (j : Int) < 0 := by omega
        clear hg hx hc hjx hcx
        generalize withoutL l j x b = M at *
        go_enter Try.func15, Try.ntmps15
        obtain ⟨z, ⟨x1, x2, x3⟩, _⟩ := H0.1.all
        go_wp2_with fail
        clear z x1 x2 x3
        refine (GD.out _ _ H0.2).mono ?_
        rintro e w1 ⟨rfl, hb1⟩
        have H1 := H0.step hb1
        clear H0 hb1
        obtain ⟨z, ⟨x1, x2, x3⟩, ⟨y1, y2, y3⟩⟩ := H1.1.all
        go_wp2_with fail
        clear z x1 x2 x3 y1 y2 y3
        refine (CV.out _).mono ?_
        rintro e w2 ⟨rfl, hb2⟩
        have H2 := H1.step hb2
        clear H1 hb2
        go_wp2_with fail
        refine (IX.out _ H2).mono ?_
        rintro e w3 ⟨rfl, hb3⟩
        have H3 := H2.step hb3
        clear H2 hb3
        obtain ⟨z, _, ⟨y1, y2, y3⟩⟩ := H3.1.all
        go_wp2_with fail
        clear z y1 y2 y3
        refine (WO.out _ _ H3.2).mono ?_
        rintro e w4 ⟨v4, rfl, hb4, O4⟩
        have HB := chain H3.1.1 hb4
        have O5 := own_base O4 H3.1.1.size
        clear H3 hb4 O4
        go_wp2
        go_ret2
        exact ⟨_, rfl, HB, O5⟩
end Go.Proofs.Ytpieddddckbfdaa
