/-
  The contract of add. Conditions: at most 128 options of at most 4096 bytes each are gathered; a piece has at most 255 bytes.
-/
import Derived.Test.YtmoklodaeicpgaaOpJ
namespace Go.Proofs.Ytmoklodaeicpgaa
open Go.RowKit Go.Joins Go.Maps

theorem own_none (v : Value) : v.ownBlock = none ∨ v.ownBlock ≠ none := by
  cases v.ownBlock with
  | none => exact Or.inl rfl
  | some j => exact Or.inr (fun e => by cases e)
theorem own_drew {W : World} {base : Nat} {v : Value} {l : List UInt8} (h : OwnB W base v l) : OwnB W.drew base v l := own_gr h (below_gr (below_drew W)) (own_none v)
set_option maxRecDepth 100000 in
set_option maxHeartbeats 4000000 in
theorem add_old {w : World} {base g : Nat} {S : Gs} (hS : GAt w base g S) (hI : GInv S) (c : UInt8) (p : ByteArray) (hp : p.size ≤ 255) (hN : gdat S c ≠ none) :
    Calls Try.prog 60 #[Pt g, KV c, .string p] w (Adds base g S c p w) := by
  obtain ⟨vc, m, F, HM⟩ := hS
  obtain ⟨cs, CS⟩ : ∃ cs, Hid (S.map (·.1) = cs) := ⟨_, hide rfl⟩
  rw [CS.out] at HM
  have k1 := cell_at HM.box 1
  simp at k1
  obtain ⟨v, d, hF, hD, hO⟩ : ∃ v d, F c = some v ∧ gdat S c = some d ∧ OwnB w base v d := by
    rcases HM.dat c with h | h
    · exact absurd h.1 hN
    · exact h
  have hd : d.length ≤ 4096 := by
    have : ∃ x ∈ S, x.2 = d := by
      clear HM CS k1 hF hO hN hI
      induction S with
      | nil => cases hD
      | cons y r ih =>
        unfold gdat at hD
        by_cases e : y.1 = c
        · rw [if_pos e] at hD; exact ⟨y, List.mem_cons_self .., Option.some.inj hD⟩
        · rw [if_neg e] at hD
          obtain ⟨x, hx, he⟩ := ih hD
          exact ⟨x, List.mem_cons_of_mem _ hx, he⟩
    obtain ⟨x, hx, rfl⟩ := this
    exact (hI.2.2 x hx).2.2
  obtain ⟨pv, cv, rfl⟩ := ownB_len hO
  have LK := (HM.map.yes hF).1
  have HH := hide HM
  have HO := hide hO
  have HF := hide hF
  clear hI hN
  by_cases hl : 4096 < d.length + p.size
  · have E := hide (show addG S c (lb p) = none by unfold addG gold; rw [hD]; exact if_pos (Or.inl (by rw [lb_len]; exact hl)))
    have PL : (4096 : Int) < (d.length : Int) + (p.size : Int) := by omega
    clear HM hD hF hO hl
    go_enter Try.func60, Try.ntmps60
    go_wp2
    go_ret
    exact ⟨Below.refl _ _, Or.inl ⟨E.out, rfl⟩⟩
  · have E := hide (show addG S c (lb p) = some (gput S c (lb p)) by
      unfold addG gold
      rw [hD, if_neg]
      rintro (h | h)
      · rw [lb_len] at h; exact hl h
      · cases h.1)
    have PL : ¬ (4096 : Int) < (d.length : Int) + (p.size : Int) := by omega
    have EC := hide (show cs = (gput S c (lb p)).map (·.1) by rw [gput_old hD, CS.out])
    have ED := hide (show ∀ c2, (if c2 = c then some (d ++ lb p) else gdat S c2) = gdat (gput S c (lb p)) c2 by intro c2; rw [gdat_gput]; unfold gold; rw [hD]; rfl)
    clear HM hD hF hO hl
    go_enter Try.func60, Try.ntmps60
    go_wp2_with fail
    go_region_law (refine step_append_B rfl (.tmp 53) (.tmp 54) rfl base _ d rfl (own_drew HO.out) p rfl (by omega) (HH.out.step (below_drew _)).wb ?_; intro v4 w4 q1 q2 q3; obtain ⟨W5, U5, G5, B5⟩ := (HH.out.step (below_drew _)).stored c (v := .slice pv d.length cv) (by rw [HF.out]; rfl) q2 q1 q3; have k4 := cell_at ((HH.out.step (below_drew _)).boxed (own_drew HO.out) q2) 1; simp at k4; have HG5 := hide G5; have HB5 := hide B5; clear G5 B5 q1 q2 q3)
    all_goals clear k1 k4 U5
    all_goals go_wp2
    all_goals go_ret
    all_goals exact ⟨(Below.refl base _).drew.trans HB5.out, Or.inr ⟨_, E.out, rfl, HG5.out.put EC.out ED.out⟩⟩
theorem add_any {w : World} {base g : Nat} {S : Gs} (hS : GAt w base g S) (hI : GInv S) (c : UInt8) (p : ByteArray) (hp : p.size ≤ 255) :
    Calls Try.prog 60 #[Pt g, KV c, .string p] w (Adds base g S c p w) := by
  cases h : gdat S c with
  | none => exact add_new hS hI c p hp h
  | some d => exact add_old hS hI c p hp (by rw [h]; simp)
end Go.Proofs.Ytmoklodaeicpgaa
