/-
  One disk that a call has made itself, from call to call. Conditions: as in each contract.
-/
import Derived.Test.YtnaedngbcndakaaFilN
namespace Go.Proofs.Ytnaedngbcndakaa
open Go.RowKit Go.Maps

/-- since w0 nothing old has changed; memory holds the disk s at d, in new blocks -/
def Ses (w0 w : World) (d : Nat) (s : Dk) : Prop := ∃ O : Nat → Prop, Fr No w0 w ∧ (∀ i, O i → w0.heap.size ≤ i) ∧ IsDsk w d O s
def SA (w0 : World) (d : Nat) (v : Value) (s : Dk) (e : Ending) (w' : World) : Prop := e = .returned v ∧ Ses w0 w' d s
variable {w0 w w' : World} {d : Nat} {s s' : Dk}
theorem ses_acts {O : Nat → Prop} {v : Value} {e : Ending} (F : Fr No w0 w) (hO : ∀ i, O i → w0.heap.size ≤ i) (h : Acts w d O v s' e w') : SA w0 d v s' e w' := by
  obtain ⟨h1, h2, h3⟩ := h
  refine ⟨h1, _, F.trans h2 (fun i hi e => ?_), fun i hi => ?_, h3⟩
  · have := hO i e; omega
  · rcases hi with hi | hi
    · exact hO i hi
    · exact Nat.le_trans F.size hi.1
theorem Ses.no (h : Ses w0 w d s) (F : Fr No w w') : Ses w0 w' d s := by
  obtain ⟨O, h1, h2, h3⟩ := h
  exact ⟨O, h1.andNo F, h2, h3.no F⟩
theorem Ses.fr (h : Ses w0 w d s) : Fr No w0 w := by
  obtain ⟨O, h1, h2, h3⟩ := h
  exact h1
theorem ses_tells {v : Value} {e : Ending} (h : Ses w0 w d s) (k : Tells w v e w') : SA w0 d v s e w' := ⟨k.1, h.no k.2⟩
theorem ses_new (F : Fr No w0 w) : Calls Try.prog 14 #[] w (fun e w' => ∃ d, SA w0 d (Pt d) newD e w') :=
  (new_any w).mono (fun _ _ ⟨d, h1, h2, _, h4⟩ => ⟨d, h1, _, F.andNo h2, fun _ hi => Nat.le_trans F.size hi.1, h4⟩)
theorem ses_append (h : Ses w0 w d s) (hst : s.steps < 4611686018427387904) {x data : Nm} (hx : x.length ≤ maxLen) (hd : data.length ≤ maxLen) {c : Int} (hr : appendD s x data = (c, s')) :
    Calls Try.prog 27 #[Pt d, St x, St data] w (SA w0 d (.int .i64 c) s') := by
  obtain ⟨O, h1, h2, h3⟩ := h
  have := append_any h3 hst hx hd
  rw [hr] at this
  exact this.mono (fun e w' k => ses_acts h1 h2 k)
theorem ses_sync (h : Ses w0 w d s) (hst : s.steps < 4611686018427387904) {x : Nm} (hx : x.length ≤ maxLen) {c : Int} (hr : syncD s x = (c, s')) :
    Calls Try.prog 49 #[Pt d, St x] w (SA w0 d (.int .i64 c) s') := by
  obtain ⟨O, h1, h2, h3⟩ := h
  have := sync_any h3 hst hx
  rw [hr] at this
  exact this.mono (fun e w' k => ses_acts h1 h2 k)
theorem ses_off (h : Ses w0 w d s) {keep : Int} (hk : I64 keep) (hr : offC s keep = s') : Calls Try.prog 23 #[Pt d, .int .i64 keep] w (SA w0 d (.tuple #[]) s') := by
  subst hr
  obtain ⟨O, h1, h2, h3⟩ := h
  unfold offC
  cases hdn : s.down with
  | true => exact (off_down h3 hdn keep).mono (fun e w' k => ⟨k.1, O, k.2 ▸ h1, h2, k.2 ▸ h3⟩)
  | false => exact (off_any h3 hdn hk).mono (fun e w' k => ses_acts h1 h2 k)
theorem ses_on (h : Ses w0 w d s) (hr : onD s = s') : Calls Try.prog 25 #[Pt d] w (SA w0 d (.tuple #[]) s') := by
  subst hr
  obtain ⟨O, h1, h2, h3⟩ := h
  exact (on_any h3).mono (fun e w' k => ses_acts h1 h2 k)
theorem ses_read (h : Ses w0 w d s) {x : Nm} (hx : x.length ≤ maxLen) {t : Nm} {c : Int} (hr : readD s x = (t, c)) :
    Calls Try.prog 35 #[Pt d, St x] w (SA w0 d (.tuple #[St t, .int .i64 c]) s) := by
  have h0 := h
  obtain ⟨O, h1, h2, h3⟩ := h
  have := read_any h3 hx
  rw [hr] at this
  exact this.mono (fun e w' k => ses_tells h0 k)
theorem ses_steps (h : Ses w0 w d s) {n : Nat} (hr : s.steps = n) : Calls Try.prog 31 #[Pt d] w (SA w0 d (.int .i64 (n : Int)) s) := by
  subst hr
  have h0 := h
  obtain ⟨O, h1, h2, h3⟩ := h
  exact (steps_any h3).mono (fun e w' k => ⟨k.1, k.2 ▸ h0⟩)
theorem ses_down (h : Ses w0 w d s) {b : Bool} (hr : s.down = b) : Calls Try.prog 33 #[Pt d] w (SA w0 d (.bool b) s) := by
  subst hr
  have h0 := h
  obtain ⟨O, h1, h2, h3⟩ := h
  exact (down_any h3).mono (fun e w' k => ⟨k.1, k.2 ▸ h0⟩)
end Go.Proofs.Ytnaedngbcndakaa
