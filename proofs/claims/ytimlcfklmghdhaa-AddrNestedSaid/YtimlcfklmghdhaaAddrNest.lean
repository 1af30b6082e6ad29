/-
  AddrNested: for all prefix values p, q and every address the law returns true: prefixes are nested or apart, a prefix is its two halves. No condition.
-/
import Derived.Test.YtimlcfklmghdhaaAddrNest1
import Derived.Test.YtimlcfklmghdhaaAddrNest2
import Derived.Test.YtimlcfklmghdhaaAddrNest3
import Derived.Test.YtimlcfklmghdhaaAddrNest4
import Derived.Test.YtimlcfklmghdhaaAddrNest5
import Derived.Test.YtimlcfklmghdhaaAddrNest6
import Derived.Test.YtimlcfklmghdhaaAddrNest7
import Derived.Test.YtimlcfklmghdhaaAddrNest8
import Derived.Test.YtimlcfklmghdhaaAddrNest9
namespace Go.Proofs.Ytimlcfklmghdhaa
open Go.RowKit

theorem half_cases {p : Nat} {n : Int} : halfOk p n = true ∨ soundS p n = false ∨ (soundS p n = true ∧ n = 128) := by
  cases h : soundS p n
  · exact Or.inr (Or.inl rfl)
  · by_cases k : n = 128
    · exact Or.inr (Or.inr ⟨rfl, k⟩)
    · left; unfold halfOk; rw [h]; simp [k]
theorem has_sound {p a : Nat} {n : Int} (h : hasS p n a = true) : soundS p n = true := by
  obtain ⟨h1, h2⟩ := has_iff.1 h
  exact sound_iff.2 ⟨h1, by rw [← h2]; exact clip_again⟩

theorem pre_1111 {p a : Nat} (hp : Fits p) (ha : Fits a) (n : Int) (C1 : coversS p n p n = true) (HP : hasS p n a = true) (w : World) : Calls Try.prog 7 #[Pv p n, Pv p n, A a] w (Gives (.bool true) w) := by
  rcases half_cases (p := p) (n := n) with HO | HS | ⟨HS, HN⟩
  · obtain ⟨_, _, _, _, _, _, _, G⟩ := halves_all HO
    obtain ⟨G1, G2⟩ := G a
    rw [HP] at G1
    cases HL : hasS p (n + 1) a
    · cases HR : hasS (highA p n) (n + 1) a
      · rw [HL, HR] at G1; cases G1
      · exact nest_1111_01 hp ha n C1 HP HO HL HR w
    · cases HR : hasS (highA p n) (n + 1) a
      · exact nest_1111_10 hp ha n C1 HP HO HL HR w
      · rw [HL, HR] at G2; cases G2
  · rw [has_sound HP] at HS; cases HS
  · exact nest_1111_n128 hp ha n C1 HP HS HN w
theorem pre_1100 {p a : Nat} (hp : Fits p) (ha : Fits a) (n : Int) (C1 : coversS p n p n = true) (HP : hasS p n a = false) (w : World) : Calls Try.prog 7 #[Pv p n, Pv p n, A a] w (Gives (.bool true) w) := by
  rcases half_cases (p := p) (n := n) with HO | HS | ⟨HS, HN⟩
  · obtain ⟨_, _, _, _, _, _, _, G⟩ := halves_all HO
    obtain ⟨G1, G2⟩ := G a
    rw [HP] at G1
    cases HL : hasS p (n + 1) a
    · cases HR : hasS (highA p n) (n + 1) a
      · exact nest_1100_00 hp ha n C1 HP HO HL HR w
      · rw [HL, HR] at G1; cases G1
    · rw [HL] at G1; cases G1
  · exact nest_1100_nosound hp ha n C1 HP HS w
  · exact nest_1100_n128 hp ha n C1 HP HS HN w
theorem pre_1011 {p q a : Nat} (hp : Fits p) (hq : Fits q) (ha : Fits a) (n m : Int) (C1 : coversS p n q m = true) (C2 : coversS q m p n = false) (HP : hasS p n a = true) (HQ : hasS q m a = true) (w : World) : Calls Try.prog 7 #[Pv p n, Pv q m, A a] w (Gives (.bool true) w) := by
  rcases half_cases (p := p) (n := n) with HO | HS | ⟨HS, HN⟩
  · obtain ⟨_, _, _, _, _, _, _, G⟩ := halves_all HO
    obtain ⟨G1, G2⟩ := G a
    rw [HP] at G1
    cases HL : hasS p (n + 1) a
    · cases HR : hasS (highA p n) (n + 1) a
      · rw [HL, HR] at G1; cases G1
      · exact nest_1011_01 hp hq ha n m C1 C2 HP HQ HO HL HR w
    · cases HR : hasS (highA p n) (n + 1) a
      · exact nest_1011_10 hp hq ha n m C1 C2 HP HQ HO HL HR w
      · rw [HL, HR] at G2; cases G2
  · rw [has_sound HP] at HS; cases HS
  · exact nest_1011_n128 hp hq ha n m C1 C2 HP HQ HS HN w
theorem pre_1010 {p q a : Nat} (hp : Fits p) (hq : Fits q) (ha : Fits a) (n m : Int) (C1 : coversS p n q m = true) (C2 : coversS q m p n = false) (HP : hasS p n a = true) (HQ : hasS q m a = false) (w : World) : Calls Try.prog 7 #[Pv p n, Pv q m, A a] w (Gives (.bool true) w) := by
  rcases half_cases (p := p) (n := n) with HO | HS | ⟨HS, HN⟩
  · obtain ⟨_, _, _, _, _, _, _, G⟩ := halves_all HO
    obtain ⟨G1, G2⟩ := G a
    rw [HP] at G1
    cases HL : hasS p (n + 1) a
    · cases HR : hasS (highA p n) (n + 1) a
      · rw [HL, HR] at G1; cases G1
      · exact nest_1010_01 hp hq ha n m C1 C2 HP HQ HO HL HR w
    · cases HR : hasS (highA p n) (n + 1) a
      · exact nest_1010_10 hp hq ha n m C1 C2 HP HQ HO HL HR w
      · rw [HL, HR] at G2; cases G2
  · rw [has_sound HP] at HS; cases HS
  · exact nest_1010_n128 hp hq ha n m C1 C2 HP HQ HS HN w
theorem pre_1000 {p q a : Nat} (hp : Fits p) (hq : Fits q) (ha : Fits a) (n m : Int) (C1 : coversS p n q m = true) (C2 : coversS q m p n = false) (HP : hasS p n a = false) (HQ : hasS q m a = false) (w : World) : Calls Try.prog 7 #[Pv p n, Pv q m, A a] w (Gives (.bool true) w) := by
  rcases half_cases (p := p) (n := n) with HO | HS | ⟨HS, HN⟩
  · obtain ⟨_, _, _, _, _, _, _, G⟩ := halves_all HO
    obtain ⟨G1, G2⟩ := G a
    rw [HP] at G1
    cases HL : hasS p (n + 1) a
    · cases HR : hasS (highA p n) (n + 1) a
      · exact nest_1000_00 hp hq ha n m C1 C2 HP HQ HO HL HR w
      · rw [HL, HR] at G1; cases G1
    · rw [HL] at G1; cases G1
  · exact nest_1000_nosound hp hq ha n m C1 C2 HP HQ HS w
  · exact nest_1000_n128 hp hq ha n m C1 C2 HP HQ HS HN w
theorem pre_011x {p q a : Nat} (hp : Fits p) (hq : Fits q) (ha : Fits a) (n m : Int) (C1 : coversS p n q m = false) (C2 : coversS q m p n = true) (HP : hasS p n a = true) (w : World) : Calls Try.prog 7 #[Pv p n, Pv q m, A a] w (Gives (.bool true) w) := by
  rcases half_cases (p := p) (n := n) with HO | HS | ⟨HS, HN⟩
  · obtain ⟨_, _, _, _, _, _, _, G⟩ := halves_all HO
    obtain ⟨G1, G2⟩ := G a
    rw [HP] at G1
    cases HL : hasS p (n + 1) a
    · cases HR : hasS (highA p n) (n + 1) a
      · rw [HL, HR] at G1; cases G1
      · exact nest_011x_01 hp hq ha n m C1 C2 HP HO HL HR w
    · cases HR : hasS (highA p n) (n + 1) a
      · exact nest_011x_10 hp hq ha n m C1 C2 HP HO HL HR w
      · rw [HL, HR] at G2; cases G2
  · rw [has_sound HP] at HS; cases HS
  · exact nest_011x_n128 hp hq ha n m C1 C2 HP HS HN w
theorem pre_010x {p q a : Nat} (hp : Fits p) (hq : Fits q) (ha : Fits a) (n m : Int) (C1 : coversS p n q m = false) (C2 : coversS q m p n = true) (HP : hasS p n a = false) (w : World) : Calls Try.prog 7 #[Pv p n, Pv q m, A a] w (Gives (.bool true) w) := by
  rcases half_cases (p := p) (n := n) with HO | HS | ⟨HS, HN⟩
  · obtain ⟨_, _, _, _, _, _, _, G⟩ := halves_all HO
    obtain ⟨G1, G2⟩ := G a
    rw [HP] at G1
    cases HL : hasS p (n + 1) a
    · cases HR : hasS (highA p n) (n + 1) a
      · exact nest_010x_00 hp hq ha n m C1 C2 HP HO HL HR w
      · rw [HL, HR] at G1; cases G1
    · rw [HL] at G1; cases G1
  · exact nest_010x_nosound hp hq ha n m C1 C2 HP HS w
  · exact nest_010x_n128 hp hq ha n m C1 C2 HP HS HN w
theorem pre_0010 {p q a : Nat} (hp : Fits p) (hq : Fits q) (ha : Fits a) (n m : Int) (C1 : coversS p n q m = false) (C2 : coversS q m p n = false) (HP : hasS p n a = true) (HQ : hasS q m a = false) (w : World) : Calls Try.prog 7 #[Pv p n, Pv q m, A a] w (Gives (.bool true) w) := by
  rcases half_cases (p := p) (n := n) with HO | HS | ⟨HS, HN⟩
  · obtain ⟨_, _, _, _, _, _, _, G⟩ := halves_all HO
    obtain ⟨G1, G2⟩ := G a
    rw [HP] at G1
    cases HL : hasS p (n + 1) a
    · cases HR : hasS (highA p n) (n + 1) a
      · rw [HL, HR] at G1; cases G1
      · exact nest_0010_01 hp hq ha n m C1 C2 HP HQ HO HL HR w
    · cases HR : hasS (highA p n) (n + 1) a
      · exact nest_0010_10 hp hq ha n m C1 C2 HP HQ HO HL HR w
      · rw [HL, HR] at G2; cases G2
  · rw [has_sound HP] at HS; cases HS
  · exact nest_0010_n128 hp hq ha n m C1 C2 HP HQ HS HN w
theorem pre_000x {p q a : Nat} (hp : Fits p) (hq : Fits q) (ha : Fits a) (n m : Int) (C1 : coversS p n q m = false) (C2 : coversS q m p n = false) (HP : hasS p n a = false) (w : World) : Calls Try.prog 7 #[Pv p n, Pv q m, A a] w (Gives (.bool true) w) := by
  rcases half_cases (p := p) (n := n) with HO | HS | ⟨HS, HN⟩
  · obtain ⟨_, _, _, _, _, _, _, G⟩ := halves_all HO
    obtain ⟨G1, G2⟩ := G a
    rw [HP] at G1
    cases HL : hasS p (n + 1) a
    · cases HR : hasS (highA p n) (n + 1) a
      · exact nest_000x_00 hp hq ha n m C1 C2 HP HO HL HR w
      · rw [HL, HR] at G1; cases G1
    · rw [HL] at G1; cases G1
  · exact nest_000x_nosound hp hq ha n m C1 C2 HP HS w
  · exact nest_000x_n128 hp hq ha n m C1 C2 HP HS HN w

theorem nested_any {p q a : Nat} (hp : Fits p) (hq : Fits q) (ha : Fits a) (n m : Int) (w : World) : Calls Try.prog 7 #[Pv p n, Pv q m, A a] w (Gives (.bool true) w) := by
  cases C1 : coversS p n q m
  · cases C2 : coversS q m p n
    · cases HP : hasS p n a
      · exact pre_000x hp hq ha n m C1 C2 HP w
      · cases HQ : hasS q m a
        · exact pre_0010 hp hq ha n m C1 C2 HP HQ w
        · rcases has_meets HP HQ with h | h
          · rw [h] at C1; cases C1
          · rw [h] at C2; cases C2
    · cases HP : hasS p n a
      · exact pre_010x hp hq ha n m C1 C2 HP w
      · exact pre_011x hp hq ha n m C1 C2 HP w
  · cases C2 : coversS q m p n
    · cases HP : hasS p n a
      · cases HQ : hasS q m a
        · exact pre_1000 hp hq ha n m C1 C2 HP HQ w
        · rw [covers_has C1 HQ] at HP; cases HP
      · cases HQ : hasS q m a
        · exact pre_1010 hp hq ha n m C1 C2 HP HQ w
        · exact pre_1011 hp hq ha n m C1 C2 HP HQ w
    · obtain ⟨rfl, rfl⟩ := covers_both C1 C2
      cases HP : hasS p n a
      · exact pre_1100 hp ha n C1 HP w
      · exact pre_1111 hp ha n C1 HP w
end Go.Proofs.Ytimlcfklmghdhaa
