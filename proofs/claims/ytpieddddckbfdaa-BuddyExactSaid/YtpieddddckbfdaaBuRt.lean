/-
  Contract of the document's own Take. Conditions: the words are words of 64 bits, an int is an int of 64 bits; at most 1000 prefixes.
-/
import Derived.Test.YtpieddddckbfdaaBuRs
import Derived.Test.YtpieddddckbfdaaBuRr
import Derived.Test.YtpieddddckbfdaaBuT
import Derived.Test.YtpieddddckbfdaaBuK
import Derived.Test.YtpieddddckbfdaaRgT
namespace Go.Proofs.Ytpieddddckbfdaa
open Go.RowKit Go.Joins

theorem rtake_none {p : Bk} {l : List Bk} {bits : Int} (h1 : goodL p l = true) (h2 : p.2 ≤ bits) (h3 : bits ≤ 128) (hb : bestL l bits l.length = none) : rtakeL p l bits = ([], (0, 0), 110) := by
  rw [rtake_eq]
  exact take_none h1 h2 h3 hb
theorem rtake_some {p : Bk} {l : List Bk} {bits : Int} {j : Nat} (h1 : goodL p l = true) (h2 : p.2 ≤ bits) (h3 : bits ≤ 128) (hb : bestL l bits l.length = some j) :
    rtakeL p l bits = (restL 129 p l [((l.getD j (0, 0)).1, bits)], ((l.getD j (0, 0)).1, bits), 0) := by
  unfold rtakeL
  rw [h1, decide_eq_true h2, decide_eq_true h3, hb]
  rfl
set_option maxRecDepth 100000 in
set_option maxHeartbeats 4000000 in
theorem rtake_any {v : Value} {p : Bk} {l : List Bk} {bits : Int} (fp : FitB p) (ib : I64 bits) (hf : FitL l) (hl : l.length ≤ 1000) (w : World) (hv : Lst v l w) :
    Calls Try.prog 13 #[Bv p, v, .int .i64 bits] w (Gives3 (takeL p l bits).1 (takeL p l bits).2.1 (takeL p l bits).2.2 w) := by
  have GD := hide (fun W v (H : Lst v l W) => rgood_any fp hf (show l.length ≤ 1000000 by omega) W H)
  have H0 := ht_new w p hv
  obtain ⟨q, c, rfl⟩ := lst_len hv
  clear hv
  cases hg : goodL p l with
  | false =>
    rw [hg] at GD
    rw [take_bad (Or.inl hg)]
    clear hg
    go_enter Try.func13, Try.ntmps13
    obtain ⟨z, ⟨x1, x2, x3⟩, _⟩ := H0.1.all
    go_wp2_with fail
    clear z x1 x2 x3
    refine (GD.out _ _ H0.2).mono ?_
    rintro e w1 ⟨rfl, hb1⟩
    have H1 := H0.step hb1
    clear H0 hb1 GD
    have HB := H1.1.1
    obtain ⟨z, ⟨y1, y2, y3⟩, y4, y5, y6⟩ := H1.1.more
    obtain ⟨_, ⟨x1, x2, x3⟩, _⟩ := H1.1.all
    go_wp2
    refine bodyPost_ret (v := .tuple #[.slice none 0 0, Bv (0, 0), .int .i64 1]) (by simp [results, Try.results13, go_sem, hi_zero, lo_zero, *]) rfl ⟨_, rfl, ?_, own_nil _ _⟩
    have hzB := HB.size
    repeat' (first | (with_reducible exact HB) | (with_reducible apply Below.drew) | (with_reducible apply Below.alloc) | (with_reducible apply Below.setCell))
    all_goals first | omega | (dsimp only; omega) | ((try simp); omega)
  | true =>
    rw [hg] at GD
    by_cases hA : bits < p.2
    · rw [take_bad (Or.inr (Or.inl hA))]
      clear hg
      go_enter Try.func13, Try.ntmps13
      obtain ⟨z, ⟨x1, x2, x3⟩, _⟩ := H0.1.all
      go_wp2_with fail
      clear z x1 x2 x3
      refine (GD.out _ _ H0.2).mono ?_
      rintro e w1 ⟨rfl, hb1⟩
      have H1 := H0.step hb1
      clear H0 hb1 GD
      have HB := H1.1.1
      obtain ⟨z, ⟨y1, y2, y3⟩, y4, y5, y6⟩ := H1.1.more
      obtain ⟨_, ⟨x1, x2, x3⟩, _⟩ := H1.1.all
      go_wp2
      refine bodyPost_ret (v := .tuple #[.slice none 0 0, Bv (0, 0), .int .i64 1]) (by simp [results, Try.results13, go_sem, hi_zero, lo_zero, *]) rfl ⟨_, rfl, ?_, own_nil _ _⟩
      have hzB := HB.size
      repeat' (first | (with_reducible exact HB) | (with_reducible apply Below.drew) | (with_reducible apply Below.alloc) | (with_reducible apply Below.setCell))
      all_goals first | omega | (dsimp only; omega) | ((try simp); omega)
    by_cases hB : 128 < bits
    · rw [take_bad (Or.inr (Or.inr hB))]
      clear hg
      go_enter Try.func13, Try.ntmps13
      obtain ⟨z, ⟨x1, x2, x3⟩, _⟩ := H0.1.all
      go_wp2_with fail
      clear z x1 x2 x3
      refine (GD.out _ _ H0.2).mono ?_
      rintro e w1 ⟨rfl, hb1⟩
      have H1 := H0.step hb1
      clear H0 hb1 GD
      have HB := H1.1.1
      obtain ⟨z, ⟨y1, y2, y3⟩, y4, y5, y6⟩ := H1.1.more
      obtain ⟨_, ⟨x1, x2, x3⟩, _⟩ := H1.1.all
      go_wp2
      refine bodyPost_ret (v := .tuple #[.slice none 0 0, Bv (0, 0), .int .i64 1]) (by simp [results, Try.results13, go_sem, hi_zero, lo_zero, *]) rfl ⟨_, rfl, ?_, own_nil _ _⟩
      have hzB := HB.size
      repeat' (first | (with_reducible exact HB) | (with_reducible apply Below.drew) | (with_reducible apply Below.alloc) | (with_reducible apply Below.setCell))
      all_goals first | omega | (dsimp only; omega) | ((try simp); omega)
    have TS := hide (fun j => rtake_some (p := p) (bits := bits) (j := j) hg (show p.2 ≤ bits by omega) (show bits ≤ 128 by omega))
    have TN := hide (rtake_none (p := p) (l := l) (bits := bits) hg (show p.2 ≤ bits by omega) (show bits ≤ 128 by omega))
    rw [← rtake_eq]
    clear hg
    go_enter Try.func13, Try.ntmps13
    obtain ⟨z, ⟨x1, x2, x3⟩, _⟩ := H0.1.all
    go_wp2_with fail
    clear z x1 x2 x3
    refine (GD.out _ _ H0.2).mono ?_
    rintro e w1 ⟨rfl, hb1⟩
    have H1 := H0.step hb1
    clear H0 hb1 GD
    obtain ⟨z, ⟨x1, x2, x3⟩, _⟩ := H1.1.all
    go_wp2_with fail
    clear z x1 x2 x3
    go_loopw [9, 10] (fun s i wr => ∃ k : Nat, k ≤ l.length ∧ i = .int .i64 (k : Nat) ∧ s = .int .i64 (bestI (bestL l bits k)) ∧ HT w p (.slice q l.length c) l wr) (fun _ i _ => l.length - (intOf i).toNat)
    case atStart => exact ⟨0, Nat.zero_le _, rfl, rfl, H1⟩
    case round =>
      obtain ⟨k, hk, rfl, rfl, HB⟩ := hrel
      clear H1
      by_cases hlt : k < l.length
      · obtain ⟨x, hx⟩ := get_some hlt
        obtain ⟨b, o, rfl, _⟩ := lst_at HB.2 hx
        have HX := hide (fun W (H : HT w p (.slice (some ⟨b, o, none⟩) l.length c) l W) => lst_at H.2 hx)
        by_cases P : x.2 ≤ bits
        · cases hb : bestL l bits k with
          | none =>
            have R := hide (best_first hx P hb)
            rw [show bestI none = -1 from rfl]
            clear hx hb
            go_wp2_with fail
            refine wp_region_quiet (C := HT w p (.slice (some ⟨b, o, none⟩) l.length c) l) (by kernel_rfl) (by kernel_rfl) (HB.step (Below.refl _ _).drew) (wpQuiet_step (fun K0 hK0 => ?_))
            go_simp
            first | (with_reducible refine hK0 _ (wpQuiet_step (fun K1 hK1 => ?_))) | (with_reducible refine ⟨_, fun _ _ => rfl, hK0 _ (wpQuiet_step (fun K1 hK1 => ?_))⟩) | (rw [if_neg (by intro e; cases e)]; with_reducible refine hK0 _ (wpQuiet_step (fun K1 hK1 => ?_)))
            clear hK0 K0
            go_simp
            first | (with_reducible refine hK1 _ (wpQuiet_step (fun K0 hK0 => ?_))) | (with_reducible refine ⟨_, fun _ _ => rfl, hK1 _ (wpQuiet_step (fun K0 hK0 => ?_))⟩) | (rw [if_neg (by intro e; cases e)]; with_reducible refine hK1 _ (wpQuiet_step (fun K0 hK0 => ?_)))
            clear hK1 K1
            go_simp
            first | (with_reducible refine hK0 _ (wpQuiet_step (fun K1 hK1 => ?_))) | (with_reducible refine ⟨_, fun _ _ => rfl, hK0 _ (wpQuiet_step (fun K1 hK1 => ?_))⟩) | (rw [if_neg (by intro e; cases e)]; with_reducible refine hK0 _ (wpQuiet_step (fun K1 hK1 => ?_)))
            clear hK0 K0
            go_simp
            first | (with_reducible refine hK1 _ (wpQuiet_step (fun K0 hK0 => ?_))) | (with_reducible refine ⟨_, fun _ _ => rfl, hK1 _ (wpQuiet_step (fun K0 hK0 => ?_))⟩) | (rw [if_neg (by intro e; cases e)]; with_reducible refine hK1 _ (wpQuiet_step (fun K0 hK0 => ?_)))
            clear hK1 K1
            go_simp
            refine ⟨.int .i64 x.2, fun W hW => ?_, hK0 _ (wpQuiet_step (fun K1 hK1 => ?_))⟩
            · ((obtain ⟨_, _, eb, _, u0, u1, u2⟩ := HX.out W hW; cases eb; simp [go_sem, u2]))
            clear hK0 K0
            go_simp
            first | (with_reducible refine hK1 _ (wpQuiet_step (fun K0 hK0 => ?_))) | (with_reducible refine ⟨_, fun _ _ => rfl, hK1 _ (wpQuiet_step (fun K0 hK0 => ?_))⟩) | (rw [if_neg (by intro e; cases e)]; with_reducible refine hK1 _ (wpQuiet_step (fun K0 hK0 => ?_)))
            clear hK1 K1
            go_simp
            first | (with_reducible refine hK0 _ (wpQuiet_step (fun K1 hK1 => ?_))) | (with_reducible refine ⟨_, fun _ _ => rfl, hK0 _ (wpQuiet_step (fun K1 hK1 => ?_))⟩) | (rw [if_neg (by intro e; cases e)]; with_reducible refine hK0 _ (wpQuiet_step (fun K1 hK1 => ?_)))
            clear hK0 K0
            go_simp
            first | (with_reducible refine hK1 _ (wpQuiet_step (fun K0 hK0 => ?_))) | (with_reducible refine ⟨_, fun _ _ => rfl, hK1 _ (wpQuiet_step (fun K0 hK0 => ?_))⟩) | (rw [if_neg (by intro e; cases e)]; with_reducible refine hK1 _ (wpQuiet_step (fun K0 hK0 => ?_)))
            clear hK1 K1
            go_simp
            first | (with_reducible refine hK0 _ (wpQuiet_step (fun K1 hK1 => ?_))) | (with_reducible refine ⟨_, fun _ _ => rfl, hK0 _ (wpQuiet_step (fun K1 hK1 => ?_))⟩) | (rw [if_neg (by intro e; cases e)]; with_reducible refine hK0 _ (wpQuiet_step (fun K1 hK1 => ?_)))
            clear hK0 K0
            go_simp
            first | (with_reducible refine hK1 _ (wpQuiet_step (fun K0 hK0 => ?_))) | (with_reducible refine ⟨_, fun _ _ => rfl, hK1 _ (wpQuiet_step (fun K0 hK0 => ?_))⟩) | (rw [if_neg (by intro e; cases e)]; with_reducible refine hK1 _ (wpQuiet_step (fun K0 hK0 => ?_)))
            clear hK1 K1
            go_simp
            first | (with_reducible refine hK0 _ (wpQuiet_step (fun K1 hK1 => ?_))) | (with_reducible refine ⟨_, fun _ _ => rfl, hK0 _ (wpQuiet_step (fun K1 hK1 => ?_))⟩) | (rw [if_neg (by intro e; cases e)]; with_reducible refine hK0 _ (wpQuiet_step (fun K1 hK1 => ?_)))
            clear hK0 K0
            go_simp
            first | (with_reducible refine hK1 _ (wpQuiet_step (fun K0 hK0 => ?_))) | (with_reducible refine ⟨_, fun _ _ => rfl, hK1 _ (wpQuiet_step (fun K0 hK0 => ?_))⟩) | (rw [if_neg (by intro e; cases e)]; with_reducible refine hK1 _ (wpQuiet_step (fun K0 hK0 => ?_)))
            clear hK1 K1
            go_simp
            first | (with_reducible refine hK0 _ (wpQuiet_step (fun K1 hK1 => ?_))) | (with_reducible refine ⟨_, fun _ _ => rfl, hK0 _ (wpQuiet_step (fun K1 hK1 => ?_))⟩) | (rw [if_neg (by intro e; cases e)]; with_reducible refine hK0 _ (wpQuiet_step (fun K1 hK1 => ?_)))
            clear hK0 K0
            go_simp
            first | (with_reducible refine hK1 _ (wpQuiet_step (fun K0 hK0 => ?_))) | (with_reducible refine ⟨_, fun _ _ => rfl, hK1 _ (wpQuiet_step (fun K0 hK0 => ?_))⟩) | (rw [if_neg (by intro e; cases e)]; with_reducible refine hK1 _ (wpQuiet_step (fun K0 hK0 => ?_)))
            clear hK1 K1
            go_simp
            first | (with_reducible refine hK0 _ (wpQuiet_step (fun K1 hK1 => ?_))) | (with_reducible refine ⟨_, fun _ _ => rfl, hK0 _ (wpQuiet_step (fun K1 hK1 => ?_))⟩) | (rw [if_neg (by intro e; cases e)]; with_reducible refine hK0 _ (wpQuiet_step (fun K1 hK1 => ?_)))
            clear hK0 K0
            go_simp
            first | (with_reducible refine hK1 _ (wpQuiet_step (fun K0 hK0 => ?_))) | (with_reducible refine ⟨_, fun _ _ => rfl, hK1 _ (wpQuiet_step (fun K0 hK0 => ?_))⟩) | (rw [if_neg (by intro e; cases e)]; with_reducible refine hK1 _ (wpQuiet_step (fun K0 hK0 => ?_)))
            clear hK1 K1
            go_simp
            first | (with_reducible refine hK0 _ (wpQuiet_step (fun K1 hK1 => ?_))) | (with_reducible refine ⟨_, fun _ _ => rfl, hK0 _ (wpQuiet_step (fun K1 hK1 => ?_))⟩) | (rw [if_neg (by intro e; cases e)]; with_reducible refine hK0 _ (wpQuiet_step (fun K1 hK1 => ?_)))
            clear hK0 K0
            go_simp
            first | (with_reducible refine hK1 _ (wpQuiet_step (fun K0 hK0 => ?_))) | (with_reducible refine ⟨_, fun _ _ => rfl, hK1 _ (wpQuiet_step (fun K0 hK0 => ?_))⟩) | (rw [if_neg (by intro e; cases e)]; with_reducible refine hK1 _ (wpQuiet_step (fun K0 hK0 => ?_)))
            clear hK1 K1
            go_simp
            first | (with_reducible refine hK0 _ (wpQuiet_step (fun K1 hK1 => ?_))) | (with_reducible refine ⟨_, fun _ _ => rfl, hK0 _ (wpQuiet_step (fun K1 hK1 => ?_))⟩) | (rw [if_neg (by intro e; cases e)]; with_reducible refine hK0 _ (wpQuiet_step (fun K1 hK1 => ?_)))
            clear hK0 K0
            go_simp
            first | (with_reducible refine hK1 _ (wpQuiet_step (fun K0 hK0 => ?_))) | (with_reducible refine ⟨_, fun _ _ => rfl, hK1 _ (wpQuiet_step (fun K0 hK0 => ?_))⟩) | (rw [if_neg (by intro e; cases e)]; with_reducible refine hK1 _ (wpQuiet_step (fun K0 hK0 => ?_)))
            clear hK1 K1
            go_simp
            first | (with_reducible refine hK0 _ (wpQuiet_step (fun K1 hK1 => ?_))) | (with_reducible refine ⟨_, fun _ _ => rfl, hK0 _ (wpQuiet_step (fun K1 hK1 => ?_))⟩) | (rw [if_neg (by intro e; cases e)]; with_reducible refine hK0 _ (wpQuiet_step (fun K1 hK1 => ?_)))
            clear hK0 K0
            go_simp
            first | (with_reducible refine hK1 _ (wpQuiet_step (fun K0 hK0 => ?_))) | (with_reducible refine ⟨_, fun _ _ => rfl, hK1 _ (wpQuiet_step (fun K0 hK0 => ?_))⟩) | (rw [if_neg (by intro e; cases e)]; with_reducible refine hK1 _ (wpQuiet_step (fun K0 hK0 => ?_)))
            clear hK1 K1
            go_simp
            first | (with_reducible refine hK0 _ (wpQuiet_step (fun K1 hK1 => ?_))) | (with_reducible refine ⟨_, fun _ _ => rfl, hK0 _ (wpQuiet_step (fun K1 hK1 => ?_))⟩) | (rw [if_neg (by intro e; cases e)]; with_reducible refine hK0 _ (wpQuiet_step (fun K1 hK1 => ?_)))
            clear hK0 K0
            go_simp
            first | (with_reducible refine hK1 _ (wpQuiet_nil ?_)) | (with_reducible refine ⟨_, fun _ _ => rfl, hK1 _ (wpQuiet_nil ?_)⟩) | (rw [if_neg (by intro e; cases e)]; with_reducible refine hK1 _ (wpQuiet_nil ?_))
            clear hK1 K1
            intro w2 H2
            go_wp2
            go_roundw
            case rel => exact ⟨k + 1, hlt, by go_num, by rw [R.out]; rfl, H2⟩
            case measure => simp [intOf]; omega
          | some j =>
            have hj := (best_some hb).1
            obtain ⟨y, hy⟩ := get_some (show j < l.length by omega)
            have R := hide (best_next hx hy P hb)
            have HY := hide (fun W (H : HT w p (.slice (some ⟨b, o, none⟩) l.length c) l W) => lst_at H.2 hy)
            rw [show bestI (some j) = (j : Int) from rfl]
            have J0 : j < l.length := by omega
            have J1 : ¬ (j : Int) < 0 := by omega
            clear hx hb hy
            by_cases P1 : y.2 < x.2
            · rw [if_pos P1] at R
              go_wp2_with fail
              refine wp_region_quiet (C := HT w p (.slice (some ⟨b, o, none⟩) l.length c) l) (by kernel_rfl) (by kernel_rfl) (HB.step (Below.refl _ _).drew) (wpQuiet_step (fun K0 hK0 => ?_))
              go_simp
              first | (with_reducible refine hK0 _ (wpQuiet_step (fun K1 hK1 => ?_))) | (with_reducible refine ⟨_, fun _ _ => rfl, hK0 _ (wpQuiet_step (fun K1 hK1 => ?_))⟩) | (rw [if_neg (by intro e; cases e)]; with_reducible refine hK0 _ (wpQuiet_step (fun K1 hK1 => ?_)))
              clear hK0 K0
              go_simp
              first | (with_reducible refine hK1 _ (wpQuiet_step (fun K0 hK0 => ?_))) | (with_reducible refine ⟨_, fun _ _ => rfl, hK1 _ (wpQuiet_step (fun K0 hK0 => ?_))⟩) | (rw [if_neg (by intro e; cases e)]; with_reducible refine hK1 _ (wpQuiet_step (fun K0 hK0 => ?_)))
              clear hK1 K1
              go_simp
              first | (with_reducible refine hK0 _ (wpQuiet_step (fun K1 hK1 => ?_))) | (with_reducible refine ⟨_, fun _ _ => rfl, hK0 _ (wpQuiet_step (fun K1 hK1 => ?_))⟩) | (rw [if_neg (by intro e; cases e)]; with_reducible refine hK0 _ (wpQuiet_step (fun K1 hK1 => ?_)))
              clear hK0 K0
              go_simp
              first | (with_reducible refine hK1 _ (wpQuiet_step (fun K0 hK0 => ?_))) | (with_reducible refine ⟨_, fun _ _ => rfl, hK1 _ (wpQuiet_step (fun K0 hK0 => ?_))⟩) | (rw [if_neg (by intro e; cases e)]; with_reducible refine hK1 _ (wpQuiet_step (fun K0 hK0 => ?_)))
              clear hK1 K1
              go_simp
              refine ⟨.int .i64 x.2, fun W hW => ?_, hK0 _ (wpQuiet_step (fun K1 hK1 => ?_))⟩
              · ((obtain ⟨_, _, eb, _, u0, u1, u2⟩ := HX.out W hW; cases eb; simp [go_sem, u2]))
              clear hK0 K0
              go_simp
              first | (with_reducible refine hK1 _ (wpQuiet_step (fun K0 hK0 => ?_))) | (with_reducible refine ⟨_, fun _ _ => rfl, hK1 _ (wpQuiet_step (fun K0 hK0 => ?_))⟩) | (rw [if_neg (by intro e; cases e)]; with_reducible refine hK1 _ (wpQuiet_step (fun K0 hK0 => ?_)))
              clear hK1 K1
              go_simp
              first | (with_reducible refine hK0 _ (wpQuiet_step (fun K1 hK1 => ?_))) | (with_reducible refine ⟨_, fun _ _ => rfl, hK0 _ (wpQuiet_step (fun K1 hK1 => ?_))⟩) | (rw [if_neg (by intro e; cases e)]; with_reducible refine hK0 _ (wpQuiet_step (fun K1 hK1 => ?_)))
              clear hK0 K0
              go_simp
              first | (with_reducible refine hK1 _ (wpQuiet_step (fun K0 hK0 => ?_))) | (with_reducible refine ⟨_, fun _ _ => rfl, hK1 _ (wpQuiet_step (fun K0 hK0 => ?_))⟩) | (rw [if_neg (by intro e; cases e)]; with_reducible refine hK1 _ (wpQuiet_step (fun K0 hK0 => ?_)))
              clear hK1 K1
              go_simp
              first | (with_reducible refine hK0 _ (wpQuiet_step (fun K1 hK1 => ?_))) | (with_reducible refine ⟨_, fun _ _ => rfl, hK0 _ (wpQuiet_step (fun K1 hK1 => ?_))⟩) | (rw [if_neg (by intro e; cases e)]; with_reducible refine hK0 _ (wpQuiet_step (fun K1 hK1 => ?_)))
              clear hK0 K0
              go_simp
              first | (with_reducible refine hK1 _ (wpQuiet_step (fun K0 hK0 => ?_))) | (with_reducible refine ⟨_, fun _ _ => rfl, hK1 _ (wpQuiet_step (fun K0 hK0 => ?_))⟩) | (rw [if_neg (by intro e; cases e)]; with_reducible refine hK1 _ (wpQuiet_step (fun K0 hK0 => ?_)))
              clear hK1 K1
              go_simp
              first | (with_reducible refine hK0 _ (wpQuiet_step (fun K1 hK1 => ?_))) | (with_reducible refine ⟨_, fun _ _ => rfl, hK0 _ (wpQuiet_step (fun K1 hK1 => ?_))⟩) | (rw [if_neg (by intro e; cases e)]; with_reducible refine hK0 _ (wpQuiet_step (fun K1 hK1 => ?_)))
              clear hK0 K0
              go_simp
              first | (with_reducible refine hK1 _ (wpQuiet_step (fun K0 hK0 => ?_))) | (with_reducible refine ⟨_, fun _ _ => rfl, hK1 _ (wpQuiet_step (fun K0 hK0 => ?_))⟩) | (rw [if_neg (by intro e; cases e)]; with_reducible refine hK1 _ (wpQuiet_step (fun K0 hK0 => ?_)))
              clear hK1 K1
              go_simp
              first | (with_reducible refine hK0 _ (wpQuiet_step (fun K1 hK1 => ?_))) | (with_reducible refine ⟨_, fun _ _ => rfl, hK0 _ (wpQuiet_step (fun K1 hK1 => ?_))⟩) | (rw [if_neg (by intro e; cases e)]; with_reducible refine hK0 _ (wpQuiet_step (fun K1 hK1 => ?_)))
              clear hK0 K0
              go_simp
              first | (with_reducible refine hK1 _ (wpQuiet_step (fun K0 hK0 => ?_))) | (with_reducible refine ⟨_, fun _ _ => rfl, hK1 _ (wpQuiet_step (fun K0 hK0 => ?_))⟩) | (rw [if_neg (by intro e; cases e)]; with_reducible refine hK1 _ (wpQuiet_step (fun K0 hK0 => ?_)))
              clear hK1 K1
              go_simp
              first | (with_reducible refine hK0 _ (wpQuiet_step (fun K1 hK1 => ?_))) | (with_reducible refine ⟨_, fun _ _ => rfl, hK0 _ (wpQuiet_step (fun K1 hK1 => ?_))⟩) | (rw [if_neg (by intro e; cases e)]; with_reducible refine hK0 _ (wpQuiet_step (fun K1 hK1 => ?_)))
              clear hK0 K0
              go_simp
              refine ⟨.int .i64 x.2, fun W hW => ?_, hK1 _ (wpQuiet_step (fun K0 hK0 => ?_))⟩
              · ((obtain ⟨_, _, eb, _, u0, u1, u2⟩ := HX.out W hW; cases eb; simp [go_sem, u2]))
              clear hK1 K1
              go_simp
              first | (with_reducible refine hK0 _ (wpQuiet_step (fun K1 hK1 => ?_))) | (with_reducible refine ⟨_, fun _ _ => rfl, hK0 _ (wpQuiet_step (fun K1 hK1 => ?_))⟩) | (rw [if_neg (by intro e; cases e)]; with_reducible refine hK0 _ (wpQuiet_step (fun K1 hK1 => ?_)))
              clear hK0 K0
              go_simp
              first | (with_reducible refine hK1 _ (wpQuiet_step (fun K0 hK0 => ?_))) | (with_reducible refine ⟨_, fun _ _ => rfl, hK1 _ (wpQuiet_step (fun K0 hK0 => ?_))⟩) | (rw [if_neg (by intro e; cases e)]; with_reducible refine hK1 _ (wpQuiet_step (fun K0 hK0 => ?_)))
              clear hK1 K1
              go_simp
              first | (with_reducible refine hK0 _ (wpQuiet_step (fun K1 hK1 => ?_))) | (with_reducible refine ⟨_, fun _ _ => rfl, hK0 _ (wpQuiet_step (fun K1 hK1 => ?_))⟩) | (rw [if_neg (by intro e; cases e)]; with_reducible refine hK0 _ (wpQuiet_step (fun K1 hK1 => ?_)))
              clear hK0 K0
              go_simp
              first | (with_reducible refine hK1 _ (wpQuiet_step (fun K0 hK0 => ?_))) | (with_reducible refine ⟨_, fun _ _ => rfl, hK1 _ (wpQuiet_step (fun K0 hK0 => ?_))⟩) | (rw [if_neg (by intro e; cases e)]; with_reducible refine hK1 _ (wpQuiet_step (fun K0 hK0 => ?_)))
              clear hK1 K1
              go_simp
              refine ⟨.int .i64 y.2, fun W hW => ?_, hK0 _ (wpQuiet_step (fun K1 hK1 => ?_))⟩
              · ((obtain ⟨_, _, eb, _, u0, u1, u2⟩ := HY.out W hW; cases eb; simp [go_sem, u2]))
              clear hK0 K0
              go_simp
              first | (with_reducible refine hK1 _ (wpQuiet_step (fun K0 hK0 => ?_))) | (with_reducible refine ⟨_, fun _ _ => rfl, hK1 _ (wpQuiet_step (fun K0 hK0 => ?_))⟩) | (rw [if_neg (by intro e; cases e)]; with_reducible refine hK1 _ (wpQuiet_step (fun K0 hK0 => ?_)))
              clear hK1 K1
              go_simp
              first | (with_reducible refine hK0 _ (wpQuiet_step (fun K1 hK1 => ?_))) | (with_reducible refine ⟨_, fun _ _ => rfl, hK0 _ (wpQuiet_step (fun K1 hK1 => ?_))⟩) | (rw [if_neg (by intro e; cases e)]; with_reducible refine hK0 _ (wpQuiet_step (fun K1 hK1 => ?_)))
              clear hK0 K0
              go_simp
              first | (with_reducible refine hK1 _ (wpQuiet_nil ?_)) | (with_reducible refine ⟨_, fun _ _ => rfl, hK1 _ (wpQuiet_nil ?_)⟩) | (rw [if_neg (by intro e; cases e)]; with_reducible refine hK1 _ (wpQuiet_nil ?_))
              clear hK1 K1
              intro w2 H2
              go_wp2
              go_roundw
              case rel => exact ⟨k + 1, hlt, by go_num, by rw [R.out]; rfl, H2⟩
              case measure => simp [intOf]; omega
            · rw [if_neg P1] at R
              go_wp2_with fail
              refine wp_region_quiet (C := HT w p (.slice (some ⟨b, o, none⟩) l.length c) l) (by kernel_rfl) (by kernel_rfl) (HB.step (Below.refl _ _).drew) (wpQuiet_step (fun K0 hK0 => ?_))
              go_simp
              first | (with_reducible refine hK0 _ (wpQuiet_step (fun K1 hK1 => ?_))) | (with_reducible refine ⟨_, fun _ _ => rfl, hK0 _ (wpQuiet_step (fun K1 hK1 => ?_))⟩) | (rw [if_neg (by intro e; cases e)]; with_reducible refine hK0 _ (wpQuiet_step (fun K1 hK1 => ?_)))
              clear hK0 K0
              go_simp
              first | (with_reducible refine hK1 _ (wpQuiet_step (fun K0 hK0 => ?_))) | (with_reducible refine ⟨_, fun _ _ => rfl, hK1 _ (wpQuiet_step (fun K0 hK0 => ?_))⟩) | (rw [if_neg (by intro e; cases e)]; with_reducible refine hK1 _ (wpQuiet_step (fun K0 hK0 => ?_)))
              clear hK1 K1
              go_simp
              first | (with_reducible refine hK0 _ (wpQuiet_step (fun K1 hK1 => ?_))) | (with_reducible refine ⟨_, fun _ _ => rfl, hK0 _ (wpQuiet_step (fun K1 hK1 => ?_))⟩) | (rw [if_neg (by intro e; cases e)]; with_reducible refine hK0 _ (wpQuiet_step (fun K1 hK1 => ?_)))
              clear hK0 K0
              go_simp
              first | (with_reducible refine hK1 _ (wpQuiet_step (fun K0 hK0 => ?_))) | (with_reducible refine ⟨_, fun _ _ => rfl, hK1 _ (wpQuiet_step (fun K0 hK0 => ?_))⟩) | (rw [if_neg (by intro e; cases e)]; with_reducible refine hK1 _ (wpQuiet_step (fun K0 hK0 => ?_)))
              clear hK1 K1
              go_simp
              refine ⟨.int .i64 x.2, fun W hW => ?_, hK0 _ (wpQuiet_step (fun K1 hK1 => ?_))⟩
              · ((obtain ⟨_, _, eb, _, u0, u1, u2⟩ := HX.out W hW; cases eb; simp [go_sem, u2]))
              clear hK0 K0
              go_simp
              first | (with_reducible refine hK1 _ (wpQuiet_step (fun K0 hK0 => ?_))) | (with_reducible refine ⟨_, fun _ _ => rfl, hK1 _ (wpQuiet_step (fun K0 hK0 => ?_))⟩) | (rw [if_neg (by intro e; cases e)]; with_reducible refine hK1 _ (wpQuiet_step (fun K0 hK0 => ?_)))
              clear hK1 K1
              go_simp
              first | (with_reducible refine hK0 _ (wpQuiet_step (fun K1 hK1 => ?_))) | (with_reducible refine ⟨_, fun _ _ => rfl, hK0 _ (wpQuiet_step (fun K1 hK1 => ?_))⟩) | (rw [if_neg (by intro e; cases e)]; with_reducible refine hK0 _ (wpQuiet_step (fun K1 hK1 => ?_)))
              clear hK0 K0
              go_simp
              first | (with_reducible refine hK1 _ (wpQuiet_step (fun K0 hK0 => ?_))) | (with_reducible refine ⟨_, fun _ _ => rfl, hK1 _ (wpQuiet_step (fun K0 hK0 => ?_))⟩) | (rw [if_neg (by intro e; cases e)]; with_reducible refine hK1 _ (wpQuiet_step (fun K0 hK0 => ?_)))
              clear hK1 K1
              go_simp
              first | (with_reducible refine hK0 _ (wpQuiet_step (fun K1 hK1 => ?_))) | (with_reducible refine ⟨_, fun _ _ => rfl, hK0 _ (wpQuiet_step (fun K1 hK1 => ?_))⟩) | (rw [if_neg (by intro e; cases e)]; with_reducible refine hK0 _ (wpQuiet_step (fun K1 hK1 => ?_)))
              clear hK0 K0
              go_simp
              first | (with_reducible refine hK1 _ (wpQuiet_step (fun K0 hK0 => ?_))) | (with_reducible refine ⟨_, fun _ _ => rfl, hK1 _ (wpQuiet_step (fun K0 hK0 => ?_))⟩) | (rw [if_neg (by intro e; cases e)]; with_reducible refine hK1 _ (wpQuiet_step (fun K0 hK0 => ?_)))
              clear hK1 K1
              go_simp
              first | (with_reducible refine hK0 _ (wpQuiet_step (fun K1 hK1 => ?_))) | (with_reducible refine ⟨_, fun _ _ => rfl, hK0 _ (wpQuiet_step (fun K1 hK1 => ?_))⟩) | (rw [if_neg (by intro e; cases e)]; with_reducible refine hK0 _ (wpQuiet_step (fun K1 hK1 => ?_)))
              clear hK0 K0
              go_simp
              first | (with_reducible refine hK1 _ (wpQuiet_step (fun K0 hK0 => ?_))) | (with_reducible refine ⟨_, fun _ _ => rfl, hK1 _ (wpQuiet_step (fun K0 hK0 => ?_))⟩) | (rw [if_neg (by intro e; cases e)]; with_reducible refine hK1 _ (wpQuiet_step (fun K0 hK0 => ?_)))
              clear hK1 K1
              go_simp
              first | (with_reducible refine hK0 _ (wpQuiet_step (fun K1 hK1 => ?_))) | (with_reducible refine ⟨_, fun _ _ => rfl, hK0 _ (wpQuiet_step (fun K1 hK1 => ?_))⟩) | (rw [if_neg (by intro e; cases e)]; with_reducible refine hK0 _ (wpQuiet_step (fun K1 hK1 => ?_)))
              clear hK0 K0
              go_simp
              first | (with_reducible refine hK1 _ (wpQuiet_step (fun K0 hK0 => ?_))) | (with_reducible refine ⟨_, fun _ _ => rfl, hK1 _ (wpQuiet_step (fun K0 hK0 => ?_))⟩) | (rw [if_neg (by intro e; cases e)]; with_reducible refine hK1 _ (wpQuiet_step (fun K0 hK0 => ?_)))
              clear hK1 K1
              go_simp
              first | (with_reducible refine hK0 _ (wpQuiet_step (fun K1 hK1 => ?_))) | (with_reducible refine ⟨_, fun _ _ => rfl, hK0 _ (wpQuiet_step (fun K1 hK1 => ?_))⟩) | (rw [if_neg (by intro e; cases e)]; with_reducible refine hK0 _ (wpQuiet_step (fun K1 hK1 => ?_)))
              clear hK0 K0
              go_simp
              refine ⟨.int .i64 x.2, fun W hW => ?_, hK1 _ (wpQuiet_step (fun K0 hK0 => ?_))⟩
              · ((obtain ⟨_, _, eb, _, u0, u1, u2⟩ := HX.out W hW; cases eb; simp [go_sem, u2]))
              clear hK1 K1
              go_simp
              first | (with_reducible refine hK0 _ (wpQuiet_step (fun K1 hK1 => ?_))) | (with_reducible refine ⟨_, fun _ _ => rfl, hK0 _ (wpQuiet_step (fun K1 hK1 => ?_))⟩) | (rw [if_neg (by intro e; cases e)]; with_reducible refine hK0 _ (wpQuiet_step (fun K1 hK1 => ?_)))
              clear hK0 K0
              go_simp
              first | (with_reducible refine hK1 _ (wpQuiet_step (fun K0 hK0 => ?_))) | (with_reducible refine ⟨_, fun _ _ => rfl, hK1 _ (wpQuiet_step (fun K0 hK0 => ?_))⟩) | (rw [if_neg (by intro e; cases e)]; with_reducible refine hK1 _ (wpQuiet_step (fun K0 hK0 => ?_)))
              clear hK1 K1
              go_simp
              first | (with_reducible refine hK0 _ (wpQuiet_step (fun K1 hK1 => ?_))) | (with_reducible refine ⟨_, fun _ _ => rfl, hK0 _ (wpQuiet_step (fun K1 hK1 => ?_))⟩) | (rw [if_neg (by intro e; cases e)]; with_reducible refine hK0 _ (wpQuiet_step (fun K1 hK1 => ?_)))
              clear hK0 K0
              go_simp
              first | (with_reducible refine hK1 _ (wpQuiet_step (fun K0 hK0 => ?_))) | (with_reducible refine ⟨_, fun _ _ => rfl, hK1 _ (wpQuiet_step (fun K0 hK0 => ?_))⟩) | (rw [if_neg (by intro e; cases e)]; with_reducible refine hK1 _ (wpQuiet_step (fun K0 hK0 => ?_)))
              clear hK1 K1
              go_simp
              refine ⟨.int .i64 y.2, fun W hW => ?_, hK0 _ (wpQuiet_step (fun K1 hK1 => ?_))⟩
              · ((obtain ⟨_, _, eb, _, u0, u1, u2⟩ := HY.out W hW; cases eb; simp [go_sem, u2]))
              clear hK0 K0
              go_simp
              first | (with_reducible refine hK1 _ (wpQuiet_step (fun K0 hK0 => ?_))) | (with_reducible refine ⟨_, fun _ _ => rfl, hK1 _ (wpQuiet_step (fun K0 hK0 => ?_))⟩) | (rw [if_neg (by intro e; cases e)]; with_reducible refine hK1 _ (wpQuiet_step (fun K0 hK0 => ?_)))
              clear hK1 K1
              go_simp
              first | (with_reducible refine hK0 _ (wpQuiet_step (fun K1 hK1 => ?_))) | (with_reducible refine ⟨_, fun _ _ => rfl, hK0 _ (wpQuiet_step (fun K1 hK1 => ?_))⟩) | (rw [if_neg (by intro e; cases e)]; with_reducible refine hK0 _ (wpQuiet_step (fun K1 hK1 => ?_)))
              clear hK0 K0
              go_simp
              first | (with_reducible refine hK1 _ (wpQuiet_nil ?_)) | (with_reducible refine ⟨_, fun _ _ => rfl, hK1 _ (wpQuiet_nil ?_)⟩) | (rw [if_neg (by intro e; cases e)]; with_reducible refine hK1 _ (wpQuiet_nil ?_))
              clear hK1 K1
              intro w2 H2
              go_wp2
              go_roundw
              case rel => exact ⟨k + 1, hlt, by go_num, by rw [R.out]; rfl, H2⟩
              case measure => simp [intOf]; omega
        · have R := hide (congrArg bestI (best_no hx P))
          have PD : decide (x.2 ≤ bits) = false := decide_eq_false P
          clear hx P
          generalize bestI (bestL l bits k) = sv at R ⊢
          go_wp2_with fail
          refine wp_region_quiet (C := HT w p (.slice (some ⟨b, o, none⟩) l.length c) l) (by kernel_rfl) (by kernel_rfl) (HB.step (Below.refl _ _).drew) (wpQuiet_step (fun K0 hK0 => ?_))
          go_simp
          first | (with_reducible refine hK0 _ (wpQuiet_step (fun K1 hK1 => ?_))) | (with_reducible refine ⟨_, fun _ _ => rfl, hK0 _ (wpQuiet_step (fun K1 hK1 => ?_))⟩) | (rw [if_neg (by intro e; cases e)]; with_reducible refine hK0 _ (wpQuiet_step (fun K1 hK1 => ?_)))
          clear hK0 K0
          go_simp
          first | (with_reducible refine hK1 _ (wpQuiet_step (fun K0 hK0 => ?_))) | (with_reducible refine ⟨_, fun _ _ => rfl, hK1 _ (wpQuiet_step (fun K0 hK0 => ?_))⟩) | (rw [if_neg (by intro e; cases e)]; with_reducible refine hK1 _ (wpQuiet_step (fun K0 hK0 => ?_)))
          clear hK1 K1
          go_simp
          first | (with_reducible refine hK0 _ (wpQuiet_step (fun K1 hK1 => ?_))) | (with_reducible refine ⟨_, fun _ _ => rfl, hK0 _ (wpQuiet_step (fun K1 hK1 => ?_))⟩) | (rw [if_neg (by intro e; cases e)]; with_reducible refine hK0 _ (wpQuiet_step (fun K1 hK1 => ?_)))
          clear hK0 K0
          go_simp
          first | (with_reducible refine hK1 _ (wpQuiet_step (fun K0 hK0 => ?_))) | (with_reducible refine ⟨_, fun _ _ => rfl, hK1 _ (wpQuiet_step (fun K0 hK0 => ?_))⟩) | (rw [if_neg (by intro e; cases e)]; with_reducible refine hK1 _ (wpQuiet_step (fun K0 hK0 => ?_)))
          clear hK1 K1
          go_simp
          refine ⟨.int .i64 x.2, fun W hW => ?_, hK0 _ (wpQuiet_step (fun K1 hK1 => ?_))⟩
          · ((obtain ⟨_, _, eb, _, u0, u1, u2⟩ := HX.out W hW; cases eb; simp [go_sem, u2]))
          clear hK0 K0
          go_simp
          first | (with_reducible refine hK1 _ (wpQuiet_step (fun K0 hK0 => ?_))) | (with_reducible refine ⟨_, fun _ _ => rfl, hK1 _ (wpQuiet_step (fun K0 hK0 => ?_))⟩) | (rw [if_neg (by intro e; cases e)]; with_reducible refine hK1 _ (wpQuiet_step (fun K0 hK0 => ?_)))
          clear hK1 K1
          go_simp
          first | (with_reducible refine hK0 _ (wpQuiet_step (fun K1 hK1 => ?_))) | (with_reducible refine ⟨_, fun _ _ => rfl, hK0 _ (wpQuiet_step (fun K1 hK1 => ?_))⟩) | (rw [if_neg (by intro e; cases e)]; with_reducible refine hK0 _ (wpQuiet_step (fun K1 hK1 => ?_)))
          clear hK0 K0
          go_simp
          first | (with_reducible refine hK1 _ (wpQuiet_step (fun K0 hK0 => ?_))) | (with_reducible refine ⟨_, fun _ _ => rfl, hK1 _ (wpQuiet_step (fun K0 hK0 => ?_))⟩) | (rw [if_neg (by intro e; cases e)]; with_reducible refine hK1 _ (wpQuiet_step (fun K0 hK0 => ?_)))
          clear hK1 K1
          go_simp
          first | (with_reducible refine hK0 _ (wpQuiet_step (fun K1 hK1 => ?_))) | (with_reducible refine ⟨_, fun _ _ => rfl, hK0 _ (wpQuiet_step (fun K1 hK1 => ?_))⟩) | (rw [if_neg (by intro e; cases e)]; with_reducible refine hK0 _ (wpQuiet_step (fun K1 hK1 => ?_)))
          clear hK0 K0
          go_simp
          first | (with_reducible refine hK1 _ (wpQuiet_step (fun K0 hK0 => ?_))) | (with_reducible refine ⟨_, fun _ _ => rfl, hK1 _ (wpQuiet_step (fun K0 hK0 => ?_))⟩) | (rw [if_neg (by intro e; cases e)]; with_reducible refine hK1 _ (wpQuiet_step (fun K0 hK0 => ?_)))
          clear hK1 K1
          go_simp
          first | (with_reducible refine hK0 _ (wpQuiet_step (fun K1 hK1 => ?_))) | (with_reducible refine ⟨_, fun _ _ => rfl, hK0 _ (wpQuiet_step (fun K1 hK1 => ?_))⟩) | (rw [if_neg (by intro e; cases e)]; with_reducible refine hK0 _ (wpQuiet_step (fun K1 hK1 => ?_)))
          clear hK0 K0
          go_simp
          first | (with_reducible refine hK1 _ (wpQuiet_step (fun K0 hK0 => ?_))) | (with_reducible refine ⟨_, fun _ _ => rfl, hK1 _ (wpQuiet_step (fun K0 hK0 => ?_))⟩) | (rw [if_neg (by intro e; cases e)]; with_reducible refine hK1 _ (wpQuiet_step (fun K0 hK0 => ?_)))
          clear hK1 K1
          go_simp
          first | (with_reducible refine hK0 _ (wpQuiet_step (fun K1 hK1 => ?_))) | (with_reducible refine ⟨_, fun _ _ => rfl, hK0 _ (wpQuiet_step (fun K1 hK1 => ?_))⟩) | (rw [if_neg (by intro e; cases e)]; with_reducible refine hK0 _ (wpQuiet_step (fun K1 hK1 => ?_)))
          clear hK0 K0
          go_simp
          first | (with_reducible refine hK1 _ (wpQuiet_step (fun K0 hK0 => ?_))) | (with_reducible refine ⟨_, fun _ _ => rfl, hK1 _ (wpQuiet_step (fun K0 hK0 => ?_))⟩) | (rw [if_neg (by intro e; cases e)]; with_reducible refine hK1 _ (wpQuiet_step (fun K0 hK0 => ?_)))
          clear hK1 K1
          go_simp
          first | (with_reducible refine hK0 _ (wpQuiet_step (fun K1 hK1 => ?_))) | (with_reducible refine ⟨_, fun _ _ => rfl, hK0 _ (wpQuiet_step (fun K1 hK1 => ?_))⟩) | (rw [if_neg (by intro e; cases e)]; with_reducible refine hK0 _ (wpQuiet_step (fun K1 hK1 => ?_)))
          clear hK0 K0
          go_simp
          first | (with_reducible refine hK1 _ (wpQuiet_step (fun K0 hK0 => ?_))) | (with_reducible refine ⟨_, fun _ _ => rfl, hK1 _ (wpQuiet_step (fun K0 hK0 => ?_))⟩) | (rw [if_neg (by intro e; cases e)]; with_reducible refine hK1 _ (wpQuiet_step (fun K0 hK0 => ?_)))
          clear hK1 K1
          go_simp
          first | (with_reducible refine hK0 _ (wpQuiet_step (fun K1 hK1 => ?_))) | (with_reducible refine ⟨_, fun _ _ => rfl, hK0 _ (wpQuiet_step (fun K1 hK1 => ?_))⟩) | (rw [if_neg (by intro e; cases e)]; with_reducible refine hK0 _ (wpQuiet_step (fun K1 hK1 => ?_)))
          clear hK0 K0
          go_simp
          first | (with_reducible refine hK1 _ (wpQuiet_step (fun K0 hK0 => ?_))) | (with_reducible refine ⟨_, fun _ _ => rfl, hK1 _ (wpQuiet_step (fun K0 hK0 => ?_))⟩) | (rw [if_neg (by intro e; cases e)]; with_reducible refine hK1 _ (wpQuiet_step (fun K0 hK0 => ?_)))
          clear hK1 K1
          go_simp
          first | (with_reducible refine hK0 _ (wpQuiet_step (fun K1 hK1 => ?_))) | (with_reducible refine ⟨_, fun _ _ => rfl, hK0 _ (wpQuiet_step (fun K1 hK1 => ?_))⟩) | (rw [if_neg (by intro e; cases e)]; with_reducible refine hK0 _ (wpQuiet_step (fun K1 hK1 => ?_)))
          clear hK0 K0
          go_simp
          first | (with_reducible refine hK1 _ (wpQuiet_step (fun K0 hK0 => ?_))) | (with_reducible refine ⟨_, fun _ _ => rfl, hK1 _ (wpQuiet_step (fun K0 hK0 => ?_))⟩) | (rw [if_neg (by intro e; cases e)]; with_reducible refine hK1 _ (wpQuiet_step (fun K0 hK0 => ?_)))
          clear hK1 K1
          go_simp
          first | (with_reducible refine hK0 _ (wpQuiet_step (fun K1 hK1 => ?_))) | (with_reducible refine ⟨_, fun _ _ => rfl, hK0 _ (wpQuiet_step (fun K1 hK1 => ?_))⟩) | (rw [if_neg (by intro e; cases e)]; with_reducible refine hK0 _ (wpQuiet_step (fun K1 hK1 => ?_)))
          clear hK0 K0
          go_simp
          first | (with_reducible refine hK1 _ (wpQuiet_step (fun K0 hK0 => ?_))) | (with_reducible refine ⟨_, fun _ _ => rfl, hK1 _ (wpQuiet_step (fun K0 hK0 => ?_))⟩) | (rw [if_neg (by intro e; cases e)]; with_reducible refine hK1 _ (wpQuiet_step (fun K0 hK0 => ?_)))
          clear hK1 K1
          go_simp
          first | (with_reducible refine hK0 _ (wpQuiet_step (fun K1 hK1 => ?_))) | (with_reducible refine ⟨_, fun _ _ => rfl, hK0 _ (wpQuiet_step (fun K1 hK1 => ?_))⟩) | (rw [if_neg (by intro e; cases e)]; with_reducible refine hK0 _ (wpQuiet_step (fun K1 hK1 => ?_)))
          clear hK0 K0
          go_simp
          first | (with_reducible refine hK1 _ (wpQuiet_nil ?_)) | (with_reducible refine ⟨_, fun _ _ => rfl, hK1 _ (wpQuiet_nil ?_)⟩) | (rw [if_neg (by intro e; cases e)]; with_reducible refine hK1 _ (wpQuiet_nil ?_))
          clear hK1 K1
          intro w2 H2
          go_wp2
          go_roundw
          case rel => exact ⟨k + 1, hlt, by go_num, by rw [R.out], H2⟩
          case measure => simp [intOf]; omega
      · obtain rfl : k = l.length := by omega
        have H2 := HB
        clear HB
        cases hb : bestL l bits l.length with
        | none =>
          have TN := hide (TN.out hb)
          rw [show bestI none = -1 from rfl]
          clear hb TS
          have HB := H2.1.1
          obtain ⟨z, ⟨y1, y2, y3⟩, y4, y5, y6⟩ := H2.1.more
          go_wp2
          refine bodyPost_ret (v := .tuple #[.slice none 0 0, Bv (0, 0), .int .i64 110]) (by simp [results, Try.results13, go_sem, hi_zero, lo_zero, *]) rfl ?_
          rw [TN.out]
          refine ⟨_, rfl, ?_, own_nil _ _⟩
          have hzB := HB.size
          repeat' (first | (with_reducible exact HB) | (with_reducible apply Below.drew) | (with_reducible apply Below.alloc) | (with_reducible apply Below.setCell))
          all_goals first | omega | (dsimp only; omega) | ((try simp); omega)
        | some j =>
          have t := TS.out j hb
          have hj := (best_some hb).1
          have t4 := getD_mem hj
          have fx := fit_at hf t4
          generalize l.getD j (0, 0) = x at *
          have RS := hide (fun W va vb (H : Lst va l W) (K : Lst vb [(x.1, bits)] W) => rest_any 128 p fp hf (fit_one (x := (x.1, bits)) ⟨fx.1, ib⟩) (show l.length ≤ 1500 by omega) (show [(x.1, bits)].length ≤ 1500 by simp) (fun _ => by omega) W H K)
          change rtakeL p l bits = (restL (128 + 1) p l [(x.1, bits)], (x.1, bits), 0) at t
          generalize restL (128 + 1) p l [(x.1, bits)] = M at *
          generalize rtakeL p l bits = TR at *
          have TR' := hide t
          rw [show bestI (some j) = (j : Int) from rfl]
          obtain ⟨b, o, rfl, _⟩ := lst_at H2.2 t4
          have HX := hide (fun W (H : HT w p (.slice (some ⟨b, o, none⟩) l.length c) l W) => lst_at H.2 t4)
          clear hb t t4 TS TN
          have J1 : ¬ (j : Int) < 0 := by omega
          obtain ⟨_, _, eb, _, x1, x2, x3⟩ := HX.out _ H2
          cases eb
          go_wp2_with fail
          clear x1 x2 x3
          generalize wr = w2 at *
          have H3 : HT2 w p w2.heap.size (x.1, bits) (.slice (some ⟨b, o, none⟩) l.length c) l (w2.alloc (.cells #[.int .u64 (hi x.1 : Nat), .int .u64 (lo x.1 : Nat), .int .i64 bits] 26)) := ⟨H2.step (below_alloc _ _), box_new w2 (x.1, bits) _⟩
          have GB := H2.1.2.2.1
          generalize w2.heap.size = g at *
          refine wp_region_relT 7 2 (HT2 w p g (x.1, bits) (.slice (some ⟨b, o, none⟩) l.length c) l) [some 68, some 69, some 70, some 71, some 72, some 73, some 6] [fun yy _ => yy = Bv p, fun yy _ => yy = .slice (some ⟨b, o, none⟩) l.length c, fun yy _ => yy = Bv (x.1, bits), fun yy W => Lst yy [(x.1, bits)] W, fun yy W => Own W g yy M, fun yy _ => yy = Bv (x.1, bits), fun yy W => Own W g yy M] 74 (by kernel_rfl) rfl (by omega) (by kernel_rfl) (by kernel_rfl) rfl rfl (H3.step (Below.refl _ _).drew) ?_ ?_
          · refine ⟨⟨fun _ _ _ h _ => h, fun a' W K hC hd hf hK => ?_⟩, ⟨fun _ _ _ h _ => h, fun a' W K hC hd hf hK => ?_⟩, ⟨fun _ _ _ h _ => h, fun a' W K hC hd hf hK => ?_⟩, ⟨fun _ _ _ h hb => h.step hb, fun a' W K hC hd hf hK => ?_⟩, ⟨fun _ _ _ h hb => own_keep h hb, fun a' W K hC hd hf hK => ?_⟩, ⟨fun _ _ _ h _ => h, fun a' W K hC hd hf hK => ?_⟩, ⟨fun _ _ _ h hb => own_keep h hb, fun a' W K hC hd hf hK => ?_⟩, trivial⟩
            · refine op_plain rfl ?_
              have f3 : a'.tmps[3]?.getD undef = .pointer (some ⟨w.heap.size, 0, none⟩) := (hf.out 3 (by kernel_rfl)).trans (by simp)
              obtain ⟨_, ⟨a0, a1, a2⟩, _⟩ := hC.1.1.all
              go_simp
              exact hK.out _ _ hC (Below.refl _ _) rfl
            · refine op_plain rfl ?_
              have f1 : a'.tmps[1]?.getD undef = .slice (some ⟨b, o, none⟩) l.length c := (hf.out 1 (by kernel_rfl)).trans (by simp)
              go_simp
              exact hK.out _ _ hC (Below.refl _ _) rfl
            · refine op_plain rfl ?_
              have f11 : a'.tmps[11]?.getD undef = .pointer (some ⟨g, 0, none⟩) := (hf.out 11 (by kernel_rfl)).trans (by simp)
              obtain ⟨_, ⟨z1, ⟨a0, a1, a2⟩, _⟩⟩ := id hC
              (try simp only at a0 a1 a2)
              go_simp
              exact hK.out _ _ hC (Below.refl _ _) rfl
            · refine op_plain rfl ?_
              have d70 : a'.tmps[70]?.getD undef = Bv (x.1, bits) := hd.out 2 70 (by kernel_rfl) rfl
              go_simp
              exact hK.out _ _ (HT2.step hC (below_alloc _ _)) (below_alloc _ _) (lst_one (box_new _ (x.1, bits) _))
            · refine op_plain rfl ?_
              have d68 : a'.tmps[68]?.getD undef = Bv p := hd.out 0 68 (by kernel_rfl) rfl
              have d69 : a'.tmps[69]?.getD undef = .slice (some ⟨b, o, none⟩) l.length c := hd.out 1 69 (by kernel_rfl) rfl
              have d71 := hd.out 3 71 (by kernel_rfl) rfl
              go_simp
              refine (RS.out W _ _ hC.1.2 d71).mono ?_
              rintro e W2 ⟨yy, rfl, hbW, hO⟩
              exact hK.out _ _ (HT2.step hC hbW) hbW (own_base hO (Nat.le_of_lt hC.2.1))
            · refine op_plain rfl ?_
              have f11 : a'.tmps[11]?.getD undef = .pointer (some ⟨g, 0, none⟩) := (hf.out 11 (by kernel_rfl)).trans (by simp)
              obtain ⟨_, ⟨z1, ⟨a0, a1, a2⟩, _⟩⟩ := id hC
              (try simp only at a0 a1 a2)
              go_simp
              exact hK.out _ _ hC (Below.refl _ _) rfl
            · refine op_plain rfl ?_
              have d72 := hd.out 4 72 (by kernel_rfl) rfl
              go_simp
              exact hK.out _ _ hC (Below.refl _ _) d72
          · intro vs W5 hC hR
            have q0 : vs 0 = Bv p := hR.out 0 (by decide)
            have q1 : vs 1 = .slice (some ⟨b, o, none⟩) l.length c := hR.out 1 (by decide)
            have q2 : vs 2 = Bv (x.1, bits) := hR.out 2 (by decide)
            have r3 := hR.out 3 (by decide)
            generalize hq3 : vs 3 = q3 at *
            change (fun yy W => Lst yy [(x.1, bits)] W) q3 W5 at r3
            have r4 := hR.out 4 (by decide)
            generalize hq4 : vs 4 = q4 at *
            change (fun yy W => Own W g yy M) q4 W5 at r4
            have q5 : vs 5 = Bv (x.1, bits) := hR.out 5 (by decide)
            have r6 := hR.out 6 (by decide)
            generalize hq6 : vs 6 = q6 at *
            change (fun yy W => Own W g yy M) q6 W5 at r6
            simp only [List.drop_succ_cons, List.drop_zero, fillF, Act.put, List.setIfInBounds_toArray, List.set_cons_zero, List.set_cons_succ, Nat.reduceAdd, q0, q1, q2, hq3, hq4, q5, hq6]
            clear hR q0 q1 q2 hq3 hq4 q5 hq6
            have HB := hC.1.1.1
            have GW : w.heap.size + 1 < g := GB
            obtain ⟨z, ⟨y1, y2, y3⟩, y4, y5, y6⟩ := hC.1.1.more
            clear H3 H2 RS HX hC
            go_wp2
            refine bodyPost_ret (v := .tuple #[q6, Bv (x.1, bits), .int .i64 0]) (by simp [results, Try.results13, go_sem, *]) rfl ?_
            rw [TR'.out]
            refine ⟨_, rfl, ?_, ?_⟩
            · skip
              have hzB := HB.size
              repeat' (first | (with_reducible exact HB) | (with_reducible apply Below.drew) | (with_reducible apply Below.alloc) | (with_reducible apply Below.setCell))
              all_goals first | omega | (dsimp only; omega) | ((try simp); omega)
            · exact own_base (own_far (own_far (own_far r6 (by dsimp only; omega) _) (by dsimp only; omega) _) (by dsimp only; omega) _) (by omega)
end Go.Proofs.Ytpieddddckbfdaa
