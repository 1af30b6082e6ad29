/-
  The contract of add. Conditions: at most 128 options of at most 4096 bytes each are gathered; a piece has at most 255 bytes.
-/
import Derived.Test.YtmoklodaeicpgaaOpH
namespace Go.Proofs.Ytmoklodaeicpgaa
open Go.RowKit Go.Joins Go.Maps

theorem GM.boxed {W W1 : World} {base g m : Nat} {vc : Value} {F : UInt8 → Option Value} {cs : List UInt8} {D : UInt8 → Option (List UInt8)} (h : GM W base g vc m F cs D) {v : Value} {l : List UInt8} (hv : OwnB W base v l) (hg : W.grownBy W1 v.ownBlock) :
    W1.heap[g]? = some (.cells #[vc, .map (some m)] 70 (0, 0)) := (hg.block g h.glt (fun e => h.row_g hv e.symm)).trans h.box
/-- what add leaves -/
def Adds (base g : Nat) (S : Gs) (c : UInt8) (p : ByteArray) (w : World) (e : Ending) (w2 : World) : Prop := Below base w w2 ∧
  ((addG S c (lb p) = none ∧ e = .returned (.int .i64 6)) ∨ ∃ S2, addG S c (lb p) = some S2 ∧ e = .returned (.int .i64 0) ∧ GAt w2 base g S2)
theorem GM.put {W : World} {base g m : Nat} {vc : Value} {F : UInt8 → Option Value} {cs : List UInt8} {D : UInt8 → Option (List UInt8)} (h : GM W base g vc m F cs D) {S : Gs} (hc : cs = S.map (·.1)) (hD : ∀ c, D c = gdat S c) : GAt W base g S := by
  refine ⟨vc, m, F, ?_⟩
  rw [← hc, show gdat S = D from funext fun c => (hD c).symm]
  exact h
set_option maxRecDepth 100000 in
set_option maxHeartbeats 2000000 in
theorem add_new {w : World} {base g : Nat} {S : Gs} (hS : GAt w base g S) (hI : GInv S) (c : UInt8) (p : ByteArray) (hp : p.size ≤ 255) (hN : gdat S c = none) :
    Calls Try.prog 60 #[Pt g, KV c, .string p] w (Adds base g S c p w) := by
  obtain ⟨vc, m, F, HM⟩ := hS
  have hcs : (S.map (·.1)).length = S.length := List.length_map _
  have hle := hI.1
  obtain ⟨cs, CS⟩ : ∃ cs, Hid (S.map (·.1) = cs) := ⟨_, hide rfl⟩
  rw [CS.out] at hcs HM
  have CL := hide hcs
  have c128 : cs.length ≤ 128 := by omega
  clear hcs
  have k0 := cell_at HM.box 0
  have k1 := cell_at HM.box 1
  have f0 := free_at HM.box 0
  simp at k0 k1
  obtain ⟨pc, cc, rfl⟩ := ownB_len HM.codes
  obtain ⟨hD, hF⟩ : gdat S c = none ∧ F c = none := by
    rcases HM.dat c with h | ⟨v, d, _, h, _⟩
    · exact h
    · rw [hN] at h; cases h
  clear hN
  · -- a new code
    have LK := HM.map.no hF
    have PL : ¬ (4096 : Int) < (p.size : Int) := by omega
    by_cases h128 : S.length = 128
    · have E := hide (show addG S c (lb p) = none by unfold addG; rw [if_pos (Or.inr ⟨hD, h128⟩)])
      have HH := hide HM
      have L128 : (cs.length : Int) = 128 := by have := CL.out; omega
      clear HM hF hD hI
      go_enter Try.func60, Try.ntmps60
      go_wp2
      go_ret
      exact ⟨Below.refl _ _, Or.inl ⟨E.out, rfl⟩⟩
    · have E := hide (show addG S c (lb p) = some (gput S c (lb p)) by
        unfold addG gold
        rw [hD, if_neg]
        rintro (h | h)
        · simp only [Option.getD_none, List.length_nil, Nat.zero_add, lb_len] at h; omega
        · exact h128 h.2)
      have EC := hide (show cs ++ [c] = (gput S c (lb p)).map (·.1) by rw [gput_new hD, List.map_append, CS.out]; rfl)
      have ED := hide (show ∀ c2, (if c2 = c then some (lb p) else gdat S c2) = gdat (gput S c (lb p)) c2 by intro c2; rw [gdat_gput]; unfold gold; rw [hD]; rfl)
      have L128 : ¬ (cs.length : Int) = 128 := by have := CL.out; omega
      have HH := hide HM
      have HF := hide hF
      clear HM hF hD hI
      go_enter Try.func60, Try.ntmps60
      go_wp2_with (at_builtin; refine wpList_append_bytes rfl (.tmp 42) (.tmp 44) rfl base _ _ rfl (HH.out.step (below_alloc _ _)).codes w.heap.size 1 [c] rfl (cell_one_new _ _ _) (by simp) (by simp only [List.length_singleton]; omega) (Nat.le_trans HH.out.wb (below_alloc _ _).size) ?_)
      intro v2 w2 h1 h2 h3
      obtain ⟨p2, n2, c2, rfl⟩ : ∃ p n c, v2 = .slice p n c := by obtain ⟨p2, c2, e⟩ := ownB_len h1; exact ⟨p2, _, c2, e⟩
      have HA := hide (HH.out.step (below_alloc w (.cells #[.int .u8 (c.toNat : Int)] 5)))
      have bx := HA.out.boxed HA.out.codes h2
      have k20 := cell_at bx 0
      have f20 := free_at bx 0
      simp at k20
      obtain ⟨G2, B2⟩ := HA.out.coded h2 h1 h3
      have HG := hide G2
      have HB := hide (((below_alloc w (.cells #[.int .u8 (c.toNat : Int)] 5)).mono HH.out.wb).trans B2)
      have k3 := cell_at G2.box 1
      simp at k3
      clear h1 h2 h3 bx G2 B2 HA k0 k1 f0 LK
      go_wp2_with fail
      generalize w2.setCell ⟨g, 0, none⟩ (.slice p2 n2 c2) = W3 at *
      clear f20 k20
      go_region_law (refine step_append_B rfl (.tmp 53) (.tmp 54) rfl base (.slice none 0 0) [] rfl (ownB_nil _ _) p rfl (by simp; omega) (HG.out.step (below_drew _)).wb ?_; intro v4 w4 q1 q2 q3; obtain ⟨W5, U5, G5, B5⟩ := (HG.out.step (below_drew _)).stored c (v := .slice none 0 0) (by rw [HF.out]; rfl) q2 q1 q3; have k4 := cell_at ((HG.out.step (below_drew _)).boxed (ownB_nil _ _) q2) 1; simp at k4; have HG5 := hide G5; have HB5 := hide B5; clear G5 B5 q1 q2 q3)
      all_goals clear k3 k4 U5
      all_goals go_wp2
      all_goals go_ret
      all_goals exact ⟨(HB.out.trans (Below.refl base _).drew).trans HB5.out, Or.inr ⟨_, E.out, rfl, HG5.out.put EC.out ED.out⟩⟩
end Go.Proofs.Ytmoklodaeicpgaa
