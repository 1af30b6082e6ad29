/-
  What an operation of a script does to two disks with the same files. No condition beyond those in each theorem's own statement.
-/
import Derived.Test.YtplnfbhjplbpiaaFilTw
namespace Go.Proofs.Ytplnfbhjplbpiaa
open Go

theorem appD_eq {s : Dk} {x data : Nm} (hdn : s.down = false) (hn : nameB x = true) : appendD s x data = (match find s.fs x with
      | none => if 16 ≤ s.fs.length ∨ 1048576 < data.length then (63, s) else goD { s with fs := putF ⟨x, data, 0⟩ s.fs } { s with fs := putF ⟨x, data, 0⟩ s.fs }
      | some f => if 1048576 < f.data.length + data.length then (63, s) else goD { s with fs := putF ⟨x, f.data ++ data, f.safe⟩ s.fs } { s with fs := putF ⟨x, f.data ++ data, f.safe⟩ s.fs }) := by
  unfold appendD; rw [hdn, hn]; rfl
theorem syncD_eq {s : Dk} {x : Nm} (hdn : s.down = false) (hn : nameB x = true) : syncD s x = (match find s.fs x with | none => (62, s) | some f => goD s { s with fs := putF ⟨x, f.data, f.data.length⟩ s.fs }) := by
  unfold syncD; rw [hdn, hn]; rfl
theorem cutD_eq {s : Dk} {x : Nm} {n : Int} (hdn : s.down = false) (hn : nameB x = true) : cutD s x n = (match find s.fs x with | none => (62, s) | some f => if n < 0 ∨ (f.data.length : Int) < n then (1, s) else goD s { s with fs := putF ⟨x, f.data.take n.toNat, n.toNat⟩ s.fs }) := by
  unfold cutD; rw [hdn, hn]; rfl
theorem renameD_eq {s : Dk} {x y : Nm} (hdn : s.down = false) (hn : (nameB x && nameB y) = true) : renameD s x y = (match find s.fs x with | none => (62, s) | some f => goD s { s with fs := putF ⟨y, f.data, f.safe⟩ (delF x s.fs) }) := by
  unfold renameD; rw [hdn, hn]; rfl
theorem deleteD_eq {s : Dk} {x : Nm} (hdn : s.down = false) (hn : nameB x = true) : deleteD s x = (match find s.fs x with | none => (62, s) | some _ => goD s { s with fs := delF x s.fs }) := by
  unfold deleteD; rw [hdn, hn]; rfl
theorem readD_eq {s : Dk} {x : Nm} (hdn : s.down = false) (hn : nameB x = true) : readD s x = (match find s.fs x with | none => ([], 62) | some f => (f.data, 0)) := by
  unfold readD; rw [hdn, hn]; rfl
/-- what comes of an operation, of a disk with these files that is up -/
def Refused (l : List Fl) (o : Op6) : Prop := ∃ c : Int, (c == 0) = false ∧ ∀ s : Dk, s.fs = l → s.down = false → actD s o = (c, s)
def Done (t : Dk) (o : Op6) : Prop := ∃ F : List Fl, nameB o.name = true ∧ (∀ s : Dk, s.fs = t.fs → s.down = false → s.left ≠ 0 → actD s o = (0, tick { s with fs := F })) ∧
  (∀ s : Dk, s.fs = t.fs → s.down = false → s.left = 0 → actD s o = (60, offD (if o.kind = 1 then { s with fs := F } else s) s.keep)) ∧
  (o.kind = 1 → ∃ f, find F o.name = some f ∧ f.data = (readD t o.name).1 ++ o.data) ∧ (o.kind ≠ 1 → ∃ f, find t.fs o.name = some f ∧ readD t o.name = (f.data, 0))
theorem act_cases (t : Dk) (hdn : t.down = false) (hs : Srt t.fs) (o : Op6) : Refused t.fs o ∨ Done t o := by
  obtain ⟨kind, on, x, y, n, keep⟩ := o
  by_cases h1 : kind = 1
  · subst h1
    have E : ∀ s, actD s ⟨1, on, x, y, n, keep⟩ = appendD s x y := fun s => by unfold actD; rw [if_pos rfl]
    cases hn : nameB x with
    | false => exact Or.inl ⟨61, rfl, fun s _ h2 => by rw [E]; unfold appendD; rw [h2, hn]; rfl⟩
    | true =>
      cases hf : find t.fs x with
      | none =>
        by_cases hb : 16 ≤ t.fs.length ∨ 1048576 < y.length
        · exact Or.inl ⟨63, rfl, fun s h1 h2 => by rw [E, appD_eq h2 hn, h1, hf]; exact if_pos hb⟩
        · refine Or.inr ⟨putF ⟨x, y, 0⟩ t.fs, hn, fun s h1 h2 h3 => ?_, fun s h1 h2 h3 => ?_, fun _ => ⟨⟨x, y, 0⟩, by rw [find_put hs, if_pos rfl], ?_⟩, fun h => absurd rfl h⟩
          · rw [E, appD_eq h2 hn, h1, hf]
            exact (if_neg hb).trans (goD_go h3)
          · rw [E, appD_eq h2 hn, h1, hf]
            exact (if_neg hb).trans (goD_off h3)
          · show y = (readD t x).1 ++ y
            rw [readD_eq hdn hn, hf]; rfl
      | some f =>
        by_cases hb : 1048576 < f.data.length + y.length
        · exact Or.inl ⟨63, rfl, fun s h1 h2 => by rw [E, appD_eq h2 hn, h1, hf]; exact if_pos hb⟩
        · refine Or.inr ⟨putF ⟨x, f.data ++ y, f.safe⟩ t.fs, hn, fun s h1 h2 h3 => ?_, fun s h1 h2 h3 => ?_, fun _ => ⟨⟨x, f.data ++ y, f.safe⟩, by rw [find_put hs, if_pos rfl], ?_⟩, fun h => absurd rfl h⟩
          · rw [E, appD_eq h2 hn, h1, hf]
            exact (if_neg hb).trans (goD_go h3)
          · rw [E, appD_eq h2 hn, h1, hf]
            exact (if_neg hb).trans (goD_off h3)
          · show f.data ++ y = (readD t x).1 ++ y
            rw [readD_eq hdn hn, hf]
  have hr : nameB x = true → ∀ f, find t.fs x = some f → readD t x = (f.data, 0) := fun hn f hf => by rw [readD_eq hdn hn, hf]
  by_cases h2 : kind = 2
  · subst h2
    have E : ∀ s, actD s ⟨2, on, x, y, n, keep⟩ = syncD s x := fun s => by unfold actD; rw [if_neg h1, if_pos rfl]
    cases hn : nameB x with
    | false => exact Or.inl ⟨61, rfl, fun s _ h2 => by rw [E]; unfold syncD; rw [h2, hn]; rfl⟩
    | true =>
      cases hf : find t.fs x with
      | none => exact Or.inl ⟨62, rfl, fun s h1 h2 => by rw [E, syncD_eq h2 hn, h1, hf]⟩
      | some f =>
        refine Or.inr ⟨putF ⟨x, f.data, f.data.length⟩ t.fs, hn, fun s h1 h2 h3 => ?_, fun s h1 h2 h3 => ?_, fun h => absurd h h1, fun _ => ⟨f, hf, hr hn f hf⟩⟩
        · rw [E, syncD_eq h2 hn, h1, hf]; exact goD_go h3
        · rw [E, syncD_eq h2 hn, h1, hf]; exact goD_off h3
  by_cases h3 : kind = 3
  · subst h3
    have E : ∀ s, actD s ⟨3, on, x, y, n, keep⟩ = cutD s x n := fun s => by unfold actD; rw [if_neg h1, if_neg h2, if_pos rfl]
    cases hn : nameB x with
    | false => exact Or.inl ⟨61, rfl, fun s _ h2 => by rw [E]; unfold cutD; rw [h2, hn]; rfl⟩
    | true =>
      cases hf : find t.fs x with
      | none => exact Or.inl ⟨62, rfl, fun s h1 h2 => by rw [E, cutD_eq h2 hn, h1, hf]⟩
      | some f =>
        by_cases hb : n < 0 ∨ (f.data.length : Int) < n
        · exact Or.inl ⟨1, rfl, fun s h1 h2 => by rw [E, cutD_eq h2 hn, h1, hf]; exact if_pos hb⟩
        · refine Or.inr ⟨putF ⟨x, f.data.take n.toNat, n.toNat⟩ t.fs, hn, fun s h1 h2 h3 => ?_, fun s h1 h2 h3 => ?_, fun h => absurd h h1, fun _ => ⟨f, hf, hr hn f hf⟩⟩
          · rw [E, cutD_eq h2 hn, h1, hf]; exact (if_neg hb).trans (goD_go h3)
          · rw [E, cutD_eq h2 hn, h1, hf]; exact (if_neg hb).trans (goD_off h3)
  by_cases h4 : kind = 4
  · subst h4
    have E : ∀ s, actD s ⟨4, on, x, y, n, keep⟩ = renameD s x y := fun s => by unfold actD; rw [if_neg h1, if_neg h2, if_neg h3, if_pos rfl]
    cases hn : (nameB x && nameB y) with
    | false => exact Or.inl ⟨61, rfl, fun s _ h2 => by rw [E]; unfold renameD; rw [h2, hn]; rfl⟩
    | true =>
      have hnx : nameB x = true := by
        rw [Bool.and_eq_true] at hn; exact hn.1
      cases hf : find t.fs x with
      | none => exact Or.inl ⟨62, rfl, fun s h1 h2 => by rw [E, renameD_eq h2 hn, h1, hf]⟩
      | some f =>
        refine Or.inr ⟨putF ⟨y, f.data, f.safe⟩ (delF x t.fs), hnx, fun s h1 h2 h3 => ?_, fun s h1 h2 h3 => ?_, fun h => absurd h h1, fun _ => ⟨f, hf, hr hnx f hf⟩⟩
        · rw [E, renameD_eq h2 hn, h1, hf]; exact goD_go h3
        · rw [E, renameD_eq h2 hn, h1, hf]; exact goD_off h3
  · have hk1 := h1
    have E : ∀ s, actD s ⟨kind, on, x, y, n, keep⟩ = deleteD s x := fun s => by unfold actD; rw [if_neg h1, if_neg h2, if_neg h3, if_neg h4]
    cases hn : nameB x with
    | false => exact Or.inl ⟨61, rfl, fun s _ h2 => by rw [E]; unfold deleteD; rw [h2, hn]; rfl⟩
    | true =>
      cases hf : find t.fs x with
      | none => exact Or.inl ⟨62, rfl, fun s h1 h2 => by rw [E, deleteD_eq h2 hn, h1, hf]⟩
      | some f =>
        refine Or.inr ⟨delF x t.fs, hn, fun s h1 h2 h3 => ?_, fun s h1 h2 h3 => ?_, fun h => absurd h h1, fun _ => ⟨f, hf, hr hn f hf⟩⟩
        · rw [E, deleteD_eq h2 hn, h1, hf]; exact goD_go h3
        · rw [E, deleteD_eq h2 hn, h1, hf]
          refine (goD_off h3).trans ?_
          show _ = (60, offD (if kind = 1 then _ else s) s.keep)
          rw [if_neg hk1]
/-- a disk, armed -/
def armS (t : Dk) (left keep : Int) : Dk := { t with left := left, keep := keep }
theorem arm_start {c : Nat} {keep : Int} : armD newD (c : Int) keep = armS newD (c : Int) keep := by
  unfold armD armS
  show (if false = true then _ else _) = _
  rw [if_neg (by simp)]
  show Dk.mk _ _ (if (c : Int) < 0 then -1 else (c : Int)) _ _ = _
  rw [if_neg (by omega)]
theorem arm_tick {t : Dk} {F : List Fl} {c n : Nat} {keep : Int} (h : n < c) : tick { (armS t ((c : Int) - (n : Int)) keep) with fs := F } = armS (tick { t with fs := F }) ((c : Int) - ((n + 1 : Nat) : Int)) keep := by
  unfold tick armS
  show Dk.mk _ _ (if 0 < (c : Int) - (n : Int) then (c : Int) - (n : Int) - 1 else _) _ _ = _
  rw [if_pos (by omega)]
  simp only [Dk.mk.injEq, true_and, and_true]
  omega
theorem tick_un {t : Dk} (h : t.left = -1) (F : List Fl) : (tick { t with fs := F }).left = -1 := by
  unfold tick
  show (if 0 < t.left then t.left - 1 else t.left) = -1
  rw [if_neg (by omega), h]
theorem read_off {s : Dk} {keep : Int} {x : Nm} {f : Fl} (hn : nameB x = true) (hf : find s.fs x = some f) : ∃ k, readD (onD (offD s keep)) x = (f.data.take k, 0) := by
  refine ⟨f.safe + keepN keep (f.data.length - f.safe), ?_⟩
  rw [readD_eq rfl hn]
  show (match find (s.fs.map (lose keep)) x with | none => _ | some f => _) = _
  rw [find_map (lose_name keep), hf]
  rfl
theorem names_off (s : Dk) (keep : Int) : names (onD (offD s keep)).fs = names s.fs := by
  show names (s.fs.map (lose keep)) = _
  unfold names
  rw [List.map_map]
  rfl
end Go.Proofs.Ytplnfbhjplbpiaa
