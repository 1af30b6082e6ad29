/-
  One disk that a call has made itself, from call to call. Conditions: as in each contract.
-/
import Derived.Test.YtplnfbhjplbpiaaFilN
namespace Go.Proofs.Ytplnfbhjplbpiaa
open Go.RowKit Go.Maps

/-- a call that gives a row of names -/
def GivesNames (w : World) (l : List Nm) (e : Ending) (w' : World) : Prop := ∃ v, e = .returned v ∧ Fr No w w' ∧ RowS w' v l
/-- the contract of Names -/
def NamesOk : Prop := ∀ (w : World) (d : Nat) (O : Nat → Prop) (s : Dk), IsDsk w d O s → Calls Try.prog 18 #[Pt d] w (GivesNames w (names s.fs))
/-- since w0 nothing old has changed; memory holds the disk s at d, in new blocks -/
def Ses (w0 w : World) (d : Nat) (s : Dk) : Prop := ∃ O : Nat → Prop, Fr No w0 w ∧ (∀ i, O i → w0.heap.size ≤ i) ∧ IsDsk w d O s
def SA (w0 : World) (d : Nat) (v : Value) (s : Dk) (e : Ending) (w' : World) : Prop := e = .returned v ∧ Ses w0 w' d s
variable {w0 w w' : World} {d : Nat} {s s' : Dk}
theorem ses_acts {O : Nat → Prop} {v : Value} {e : Ending} (F : Fr No w0 w) (hO : ∀ i, O i → w0.heap.size ≤ i) (h : Acts w d O v s' e w') : SA w0 d v s' e w' := by
  obtain ⟨h1, h2, h3⟩ := h
  refine ⟨h1, _, F.trans h2 (fun i hi e => ?_), fun i hi => ?_, h3⟩
  · have := hO i e; omega
  · rcases hi with hi | hi
    · exact hO i hi
    · exact Nat.le_trans F.size hi.1
theorem Ses.no (h : Ses w0 w d s) (F : Fr No w w') : Ses w0 w' d s := by
  obtain ⟨O, h1, h2, h3⟩ := h
  exact ⟨O, h1.andNo F, h2, h3.no F⟩
theorem Ses.fr (h : Ses w0 w d s) : Fr No w0 w := by
  obtain ⟨O, h1, h2, h3⟩ := h
  exact h1
theorem ses_tells {v : Value} {e : Ending} (h : Ses w0 w d s) (k : Tells w v e w') : SA w0 d v s e w' := ⟨k.1, h.no k.2⟩
theorem ses_new (F : Fr No w0 w) : Calls Try.prog 8 #[] w (fun e w' => ∃ d, SA w0 d (Pt d) newD e w') :=
  (new_any w).mono (fun _ _ ⟨d, h1, h2, _, h4⟩ => ⟨d, h1, _, F.andNo h2, fun _ hi => Nat.le_trans F.size hi.1, h4⟩)
theorem ses_append (h : Ses w0 w d s) (hst : s.steps < 4611686018427387904) {x data : Nm} (hx : x.length ≤ maxLen) (hd : data.length ≤ maxLen) {c : Int} (hr : appendD s x data = (c, s')) :
    Calls Try.prog 24 #[Pt d, St x, St data] w (SA w0 d (.int .i64 c) s') := by
  obtain ⟨O, h1, h2, h3⟩ := h
  have := append_any h3 hst hx hd
  rw [hr] at this
  exact this.mono (fun e w' k => ses_acts h1 h2 k)
theorem ses_sync (h : Ses w0 w d s) (hst : s.steps < 4611686018427387904) {x : Nm} (hx : x.length ≤ maxLen) {c : Int} (hr : syncD s x = (c, s')) :
    Calls Try.prog 25 #[Pt d, St x] w (SA w0 d (.int .i64 c) s') := by
  obtain ⟨O, h1, h2, h3⟩ := h
  have := sync_any h3 hst hx
  rw [hr] at this
  exact this.mono (fun e w' k => ses_acts h1 h2 k)
theorem ses_rename (h : Ses w0 w d s) (hst : s.steps < 4611686018427387904) {x y : Nm} (hx : x.length ≤ maxLen) (hy : y.length ≤ maxLen) {c : Int} (hr : renameD s x y = (c, s')) :
    Calls Try.prog 29 #[Pt d, St x, St y] w (SA w0 d (.int .i64 c) s') := by
  obtain ⟨O, h1, h2, h3⟩ := h
  have := rename_any h3 hst hx hy
  rw [hr] at this
  exact this.mono (fun e w' k => ses_acts h1 h2 k)
theorem ses_delete (h : Ses w0 w d s) (hst : s.steps < 4611686018427387904) {x : Nm} (hx : x.length ≤ maxLen) {c : Int} (hr : deleteD s x = (c, s')) :
    Calls Try.prog 30 #[Pt d, St x] w (SA w0 d (.int .i64 c) s') := by
  obtain ⟨O, h1, h2, h3⟩ := h
  have := delete_any h3 hst hx
  rw [hr] at this
  exact this.mono (fun e w' k => ses_acts h1 h2 k)
theorem ses_off (h : Ses w0 w d s) {keep : Int} (hk : I64 keep) (hr : offC s keep = s') : Calls Try.prog 26 #[Pt d, .int .i64 keep] w (SA w0 d (.tuple #[]) s') := by
  subst hr
  obtain ⟨O, h1, h2, h3⟩ := h
  unfold offC
  cases hdn : s.down with
  | true => exact (off_down h3 hdn keep).mono (fun e w' k => ⟨k.1, O, k.2 ▸ h1, h2, k.2 ▸ h3⟩)
  | false => exact (off_any h3 hdn hk).mono (fun e w' k => ses_acts h1 h2 k)
theorem ses_on (h : Ses w0 w d s) (hr : onD s = s') : Calls Try.prog 20 #[Pt d] w (SA w0 d (.tuple #[]) s') := by
  subst hr
  obtain ⟨O, h1, h2, h3⟩ := h
  exact (on_any h3).mono (fun e w' k => ses_acts h1 h2 k)
theorem ses_read (h : Ses w0 w d s) {x : Nm} (hx : x.length ≤ maxLen) {t : Nm} {c : Int} (hr : readD s x = (t, c)) :
    Calls Try.prog 22 #[Pt d, St x] w (SA w0 d (.tuple #[St t, .int .i64 c]) s) := by
  have h0 := h
  obtain ⟨O, h1, h2, h3⟩ := h
  have := read_any h3 hx
  rw [hr] at this
  exact this.mono (fun e w' k => ses_tells h0 k)
theorem ses_safe (h : Ses w0 w d s) {x : Nm} (hx : x.length ≤ maxLen) {n : Nat} (hr : safeD s x = n) : Calls Try.prog 15 #[Pt d, St x] w (SA w0 d (.int .i64 (n : Int)) s) := by
  subst hr
  have h0 := h
  obtain ⟨O, h1, h2, h3⟩ := h
  exact (safe_any h3 hx).mono (fun e w' k => ⟨k.1, k.2 ▸ h0⟩)
theorem ses_steps (h : Ses w0 w d s) {n : Nat} (hr : s.steps = n) : Calls Try.prog 13 #[Pt d] w (SA w0 d (.int .i64 (n : Int)) s) := by
  subst hr
  have h0 := h
  obtain ⟨O, h1, h2, h3⟩ := h
  exact (steps_any h3).mono (fun e w' k => ⟨k.1, k.2 ▸ h0⟩)
theorem ses_down (h : Ses w0 w d s) {b : Bool} (hr : s.down = b) : Calls Try.prog 11 #[Pt d] w (SA w0 d (.bool b) s) := by
  subst hr
  have h0 := h
  obtain ⟨O, h1, h2, h3⟩ := h
  exact (down_any h3).mono (fun e w' k => ⟨k.1, k.2 ▸ h0⟩)
/-- names that a disk has told -/
def SN (w0 : World) (d : Nat) (l : List Nm) (s : Dk) (e : Ending) (w' : World) : Prop := ∃ v, e = .returned v ∧ Ses w0 w' d s ∧ RowS w' v l
theorem ses_names (HN : NamesOk) (h : Ses w0 w d s) {l : List Nm} (hr : names s.fs = l) : Calls Try.prog 18 #[Pt d] w (SN w0 d l s) := by
  subst hr
  have h0 := h
  obtain ⟨O, h1, h2, h3⟩ := h
  exact (HN _ _ _ _ h3).mono (fun e w' ⟨v, k1, k2, k3⟩ => ⟨v, k1, h0.no k2, k3⟩)
/-- names compared with one name that has just been laid -/
theorem ses_same (h : Ses w0 w d s) {v : Value} {l : List Nm} (hv : RowS w v l) (hl : l.length < 1099511627776) {x : Nm} {b : Bool} (hb : decide (l = [x]) = b) :
    Calls Try.prog 17 #[v, .slice (some ⟨w.heap.size, 0, none⟩) 1 1] (w.alloc (.cells #[St x] 9)) (SA w0 d (.bool b) s) := by
  have F := Fr.alloc w (.cells #[St x] 9)
  have R2 : RowS (w.alloc (.cells #[St x] 9)) (.slice (some ⟨w.heap.size, 0, none⟩) 1 1) [x] := ⟨_, 1, rfl, fun j y hj => ⟨_, rfl, by
    rw [cell_at (MapKept.heap_alloc w _).1]
    match j, hj with
    | 0, hj => cases hj; rfl⟩⟩
  have := names_any (hv.no F) R2 hl
  rw [hb] at this
  exact this.mono (fun e w' k => ses_tells (h.no F) k)
end Go.Proofs.Ytplnfbhjplbpiaa
