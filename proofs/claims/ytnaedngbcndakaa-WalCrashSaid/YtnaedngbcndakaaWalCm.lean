/-
  Mathematics of WalCrash: what the disk has behind each call, and behind a loss of power. No condition beyond those in each theorem's own statement.
-/
import Derived.Test.YtnaedngbcndakaaWalK
namespace Go.Proofs.Ytnaedngbcndakaa
open Go

theorem logB : nameB nLog = true := by kernel_rfl
/-- up, with these records in the file, of which the first ones are safe -/
def UpS (keep : Int) (sent : List Nm) (safe : Nat) (s : Dk) : Prop :=
  s.down = false ∧ s.keep = keep ∧ ((s.fs = [] ∧ sent = [] ∧ safe = 0) ∨ ∃ sf, s.fs = [⟨nLog, framesL sent, sf⟩] ∧ sizeL (sent.take safe) ≤ sf ∧ sf ≤ sizeL sent)
/-- down, with a beginning of these records' frames, all that was safe among it -/
def DnS (sent : List Nm) (safe : Nat) (s : Dk) : Prop :=
  s.down = true ∧ ((s.fs = [] ∧ sent = [] ∧ safe = 0) ∨ ∃ c, s.fs = [⟨nLog, (framesL sent).take c, c⟩] ∧ sizeL (sent.take safe) ≤ c ∧ c ≤ sizeL sent)
theorem find_one (x : Nm) (f : Fl) (h : f.name = x) : find [f] x = some f := by rw [find_cons, if_pos h]
theorem put_one (f g : Fl) (h : f.name = g.name) : putF f [g] = [f] := by
  unfold putF
  rw [if_neg (by rw [h]; exact nm_irr _), if_pos h]
theorem put_log (a b : Nm) (i j : Nat) : putF ⟨nLog, a, i⟩ [⟨nLog, b, j⟩] = [⟨nLog, a, i⟩] := put_one _ _ rfl
/-- the power takes what it takes -/
theorem dn_off {keep keep' : Int} {sent : List Nm} {safe : Nat} {s : Dk} (h : UpS keep sent safe s) : DnS sent safe (offD s keep') := by
  obtain ⟨h1, h2, h3⟩ := h
  refine ⟨rfl, ?_⟩
  rcases h3 with ⟨e1, e2, e3⟩ | ⟨sf, e1, e2, e3⟩
  · left
    exact ⟨by unfold offD; rw [e1]; rfl, e2, e3⟩
  · right
    have hk := keepN_le keep' (sizeL sent - sf)
    refine ⟨sf + keepN keep' (sizeL sent - sf), by unfold offD; rw [e1]; rfl, by omega, by omega⟩
theorem offC_down {s : Dk} (h : s.down = true) (keep : Int) : offC s keep = s := by unfold offC; rw [if_pos h]
theorem offC_up {s : Dk} (h : s.down = false) (keep : Int) : offC s keep = offD s keep := by unfold offC; rw [if_neg (by rw [h]; simp)]
theorem take_keep {sent : List Nm} {p : Nm} {safe : Nat} (h : safe ≤ sent.length) : (sent ++ [p]).take safe = sent.take safe := List.take_append_of_le_length h
/-- a record is appended: the power goes at it, or it is done -/
theorem app_up {keep : Int} {sent : List Nm} {safe : Nat} {s : Dk} (h : UpS keep sent safe s) (hs : safe ≤ sent.length) {p : Nm} (hp : recOk p) (hl : sizeL sent + (8 + p.length) ≤ 1048576) :
    ∃ s', (s.left = 0 ∧ lappD nLog p (sizeL sent) false s = (60, (sizeL sent, true), s') ∧ DnS (sent ++ [p]) safe s' ∧ s'.steps = s.steps) ∨
      (lappD nLog p (sizeL sent) false s = (0, (sizeL (sent ++ [p]), false), s') ∧ UpS keep (sent ++ [p]) safe s' ∧ s'.steps = s.steps + 1 ∧ (s.left = -1 → s'.left = -1)) := by
  obtain ⟨h1, h2, h3⟩ := h
  obtain ⟨sf, hsf1, hsf2, E⟩ : ∃ sf, sizeL (sent.take safe) ≤ sf ∧ sf ≤ sizeL sent ∧ appendD s nLog (frameL p) = goD { s with fs := [⟨nLog, framesL (sent ++ [p]), sf⟩] } { s with fs := [⟨nLog, framesL (sent ++ [p]), sf⟩] } := by
    rcases h3 with ⟨e1, e2, e3⟩ | ⟨sf, e1, e2, e3⟩
    · refine ⟨0, by rw [e3, List.take_zero, size_nil]; omega, by omega, ?_⟩
      have hfl := frame_length p
      rw [e2, size_nil] at hl
      unfold appendD
      rw [if_neg (by rw [h1]; simp), if_pos logB, e1, find_nil, e2]
      simp only [List.length_nil, List.nil_append]
      rw [if_neg (by omega), frames_cons, frames_nil, List.append_nil]
      rfl
    · refine ⟨sf, e2, e3, ?_⟩
      have hfl := frame_length p
      unfold appendD
      rw [if_neg (by rw [h1]; simp), if_pos logB, e1, find_one _ _ rfl]
      simp only
      rw [if_neg (by show ¬ 1048576 < sizeL sent + (frameL p).length; omega), put_log, frames_snoc]
  have key : lappD nLog p (sizeL sent) false s = ((appendD s nLog (frameL p)).1, (if (appendD s nLog (frameL p)).1 = 0 then sizeL sent + (8 + p.length) else sizeL sent, decide ((appendD s nLog (frameL p)).1 = 60)), (appendD s nLog (frameL p)).2) := by
    unfold lappD
    rw [if_neg (by rw [h1]; simp), if_pos hp]
  rw [key, E]
  have UP : UpS keep (sent ++ [p]) safe { s with fs := [⟨nLog, framesL (sent ++ [p]), sf⟩] } := ⟨h1, h2, Or.inr ⟨sf, rfl, by rw [take_keep hs]; exact hsf1, by rw [size_snoc]; omega⟩⟩
  have TL : ({ s with fs := [⟨nLog, framesL (sent ++ [p]), sf⟩] } : Dk).left = s.left := rfl
  have TS : ({ s with fs := [⟨nLog, framesL (sent ++ [p]), sf⟩] } : Dk).steps = s.steps := rfl
  generalize ({ s with fs := [⟨nLog, framesL (sent ++ [p]), sf⟩] } : Dk) = t at *
  by_cases h0 : s.left = 0
  · rw [goD_off (TL.trans h0)]
    exact ⟨_, Or.inl ⟨h0, rfl, dn_off UP, TS⟩⟩
  · rw [goD_go (fun e => h0 (TL.symm.trans e))]
    refine ⟨tick t, Or.inr ⟨?_, UP, by show t.steps + 1 = _; rw [TS], fun e => by show (if 0 < t.left then t.left - 1 else t.left) = -1; rw [TL, e]; rfl⟩⟩
    rw [size_snoc]; rfl
/-- a Sync: the power goes at it, or all is safe -/
theorem syn_up {keep : Int} {sent : List Nm} {safe n : Nat} {s : Dk} (h : UpS keep sent safe s) (hne : sent ≠ []) :
    ∃ s', (s.left = 0 ∧ lsyncD nLog n false s = (60, (n, true), s') ∧ DnS sent safe s' ∧ s'.steps = s.steps) ∨
      (lsyncD nLog n false s = (0, (n, false), s') ∧ UpS keep sent sent.length s' ∧ s'.steps = s.steps + 1 ∧ (s.left = -1 → s'.left = -1)) := by
  have H := h
  obtain ⟨h1, h2, h3⟩ := h
  rcases h3 with ⟨_, e2, _⟩ | ⟨sf, e1, e2, e3⟩
  · exact absurd e2 hne
  have E : syncD s nLog = goD s { s with fs := [⟨nLog, framesL sent, sizeL sent⟩] } := by
    unfold syncD
    rw [if_neg (by rw [h1]; simp), if_pos logB, e1, find_one _ _ rfl]
    simp only
    rw [put_log]
    rfl
  have key : lsyncD nLog n false s = (if (syncD s nLog).1 = 62 then 0 else (syncD s nLog).1, (n, decide ((syncD s nLog).1 = 60)), (syncD s nLog).2) := by
    unfold lsyncD
    rw [if_neg (by rw [h1]; simp)]
  rw [key, E]
  by_cases h0 : s.left = 0
  · rw [goD_off h0]
    exact ⟨_, Or.inl ⟨h0, rfl, dn_off H, rfl⟩⟩
  · rw [goD_go h0]
    exact ⟨_, Or.inr ⟨rfl, ⟨h1, h2, Or.inr ⟨sizeL sent, rfl, by rw [List.take_length]; exact Nat.le_refl _, Nat.le_refl _⟩⟩, rfl, fun e => by show (if 0 < s.left then s.left - 1 else s.left) = -1; rw [e]; rfl⟩⟩
theorem lopen_ok {x : Nm} {s : Dk} {data : Nm} {c : Int} (R : readD s x = (data, c)) (hc : c = 0 ∨ c = 62) :
    lopenD x s = if sizeL (scanL data) < data.length then ((cutD s x (sizeL (scanL data) : Nat)).1, scanL data, (cutD s x (sizeL (scanL data) : Nat)).2) else (0, scanL data, s) := by
  unfold lopenD
  rw [R]
  exact if_pos hc
/-- up, not armed, with just these records -/
def OkS (got : List Nm) (s : Dk) : Prop := s.down = false ∧ s.left = -1 ∧ ((s.fs = [] ∧ got = []) ∨ ∃ sf, s.fs = [⟨nLog, framesL got, sf⟩] ∧ sf ≤ sizeL got)
/-- what is found behind the loss of power -/
theorem open_dn {sent : List Nm} {safe : Nat} {s : Dk} (h : DnS sent safe s) (hok : ∀ p ∈ sent, recOk p) (hs : safe ≤ sent.length) :
    ∃ m s', m ≤ sent.length ∧ safe ≤ m ∧ lopenD nLog (onD s) = (0, sent.take m, s') ∧ OkS (sent.take m) s' ∧ s'.steps ≤ s.steps + 1 := by
  obtain ⟨h1, h3⟩ := h
  rcases h3 with ⟨e1, e2, e3⟩ | ⟨c, e1, e2, e3⟩
  · have R : readD (onD s) nLog = ([], 62) := by
      unfold readD
      rw [if_neg (by show ¬ false = true; simp), if_pos logB]
      show (match find s.fs nLog with | none => _ | some f => _) = _
      rw [e1, find_nil]
    refine ⟨0, onD s, Nat.zero_le _, by omega, ?_, ⟨rfl, rfl, Or.inl ⟨e1, by rw [e2]; rfl⟩⟩, Nat.le_succ _⟩
    unfold lopenD
    rw [R, if_pos (Or.inr rfl), if_neg (by simp), e2]
    rfl
  · have R : readD (onD s) nLog = ((framesL sent).take c, 0) := by
      unfold readD
      rw [if_neg (by show ¬ false = true; simp), if_pos logB]
      show (match find s.fs nLog with | none => _ | some f => _) = _
      rw [e1, find_one _ _ rfl]
    obtain ⟨m, m1, m2, m3⟩ := prefix_scan hok c
    have hm := m3 safe hs e2
    have SZ := scan_size ((framesL sent).take c)
    have ST := scan_take ((framesL sent).take c)
    rw [m2] at SZ ST
    by_cases hlt : sizeL (sent.take m) < ((framesL sent).take c).length
    · refine ⟨m, tick { onD s with fs := [⟨nLog, framesL (sent.take m), sizeL (sent.take m)⟩] }, m1, hm, ?_, ⟨rfl, rfl, Or.inr ⟨_, rfl, Nat.le_refl _⟩⟩, Nat.le_refl _⟩
      have C : cutD (onD s) nLog (sizeL (sent.take m) : Nat) = (0, tick { onD s with fs := [⟨nLog, framesL (sent.take m), sizeL (sent.take m)⟩] }) := by
        unfold cutD
        rw [if_neg (by show ¬ false = true; simp), if_pos logB]
        show (match find s.fs nLog with | none => _ | some f => _) = _
        rw [e1, find_one _ _ rfl]
        simp only
        rw [if_neg (by omega), goD_go (by show ¬ (-1 : Int) = 0; omega)]
        show (0, tick { onD s with fs := putF _ s.fs }) = _
        rw [e1, Int.toNat_natCast, ST, put_log]
      rw [lopen_ok R (Or.inl rfl), m2, if_pos hlt, C]
    · have hfull : (framesL sent).take c = framesL (sent.take m) := by
        rw [← ST]
        exact (List.take_of_length_le (by omega)).symm
      refine ⟨m, onD s, m1, hm, ?_, ⟨rfl, rfl, Or.inr ⟨c, by rw [← hfull]; exact e1, by
        have hc2 : ((framesL sent).take c).length = c := by rw [List.length_take]; exact Nat.min_eq_left e3
        rw [hfull] at hc2
        exact Nat.le_of_eq hc2.symm⟩⟩, Nat.le_succ _⟩
      rw [lopen_ok R (Or.inl rfl), m2, if_neg hlt]
abbrev nMore : Nm := [109, 111, 114, 101]
theorem more_ok : recOk nMore := by decide
/-- the log goes on from there -/
theorem goes_on {got : List Nm} {s : Dk} (h : OkS got s) (hok : ∀ p ∈ got, recOk p) (hl : sizeL got + 12 ≤ 1048576) :
    ∃ s2 s3 s6, lappD nLog nMore (sizeL got) false s = (0, (sizeL (got ++ [nMore]), false), s2) ∧ lsyncD nLog (sizeL (got ++ [nMore])) false s2 = (0, (sizeL (got ++ [nMore]), false), s3) ∧
      lopenD nLog (onD (offC s3 0)) = (0, got ++ [nMore], s6) ∧ s2.steps ≤ s.steps + 1 ∧ s3.steps ≤ s.steps + 2 := by
  obtain ⟨h1, h2, h3⟩ := h
  have U : UpS s.keep got 0 s := ⟨h1, rfl, by
    rcases h3 with ⟨e1, e2⟩ | ⟨sf, e1, e2⟩
    · exact Or.inl ⟨e1, e2, rfl⟩
    · exact Or.inr ⟨sf, e1, by rw [List.take_zero, size_nil]; omega, e2⟩⟩
  obtain ⟨s2, hA⟩ := app_up U (Nat.zero_le _) more_ok (show sizeL got + (8 + nMore.length) ≤ 1048576 from hl)
  rcases hA with ⟨a0, _⟩ | ⟨a1, a2, a3, a4⟩
  · omega
  obtain ⟨s3, hS⟩ := syn_up (n := sizeL (got ++ [nMore])) a2 (by simp)
  have a5 := a4 h2
  rcases hS with ⟨b0, _⟩ | ⟨b1, b2, b3, b4⟩
  · omega
  have hG : ∀ p ∈ got ++ [nMore], recOk p := fun p hp => by
    rcases List.mem_append.1 hp with h | h
    · exact hok p h
    · rw [List.mem_singleton.1 h]; exact more_ok
  have D := dn_off (keep' := 0) b2
  rw [← offC_up b2.1 0] at D
  obtain ⟨m, s6, m1, m2, m3, _, _⟩ := open_dn D hG (Nat.le_refl _)
  have hm : m = (got ++ [nMore]).length := by omega
  rw [hm, List.take_length] at m3
  exact ⟨s2, s3, s6, a1, b1, m3, by omega, by omega⟩
end Go.Proofs.Ytnaedngbcndakaa
