/-
  The contract of list. Condition: at most 128 options of at most 4096 bytes each are gathered.
-/
import Derived.Test.YtmoklodaeicpgaaOpR
namespace Go.Proofs.Ytmoklodaeicpgaa
open Go.RowKit Go.Joins Go.Maps

theorem gdat_at : ∀ {S : Gs} {k : Nat} {x : UInt8 × List UInt8}, (S.map (·.1)).Nodup → S[k]? = some x → gdat S x.1 = some x.2
  | [], k, x, _, h => by simp at h
  | y :: r, 0, x, _, h => by
    simp at h
    subst h
    unfold gdat
    rw [if_pos rfl]
  | y :: r, k + 1, x, hn, h => by
    rw [List.map_cons, List.nodup_cons] at hn
    simp at h
    unfold gdat
    rw [if_neg (fun e => hn.1 (by rw [e]; exact List.mem_map.2 ⟨x, List.mem_of_getElem? h, rfl⟩))]
    exact gdat_at hn.2 h
theorem conv_nil (w : World) : (convert 39 9 (.slice none 0 0)).run Try.prog w = .ok (.string (bs [])) w := by
  simp [convert, run_underlying Try.underlying39, run_underlying Try.underlying9]
  kernel_rfl
theorem conv_B {w : World} {base : Nat} {v : Value} {d : List UInt8} (h : OwnB w base v d) : (convert 39 9 v).run Try.prog w = .ok (.string (bs d)) w := by
  rcases h.2 with ⟨rfl, h0⟩ | ⟨g, cap, cur, rfl, _⟩
  · have : d = [] := List.length_eq_zero_iff.1 h0
    subst this
    exact conv_nil w
  · exact conv_own h
theorem optsOf_take {S : Gs} {k : Nat} {x : UInt8 × List UInt8} (h : S[k]? = some x) : optsOf (S.take (k + 1)) = optsOf (S.take k) ++ [(x.1, bs x.2)] := by
  unfold optsOf
  rw [List.take_add_one, h, List.map_append]; rfl
set_option maxRecDepth 100000 in
set_option maxHeartbeats 2000000 in
theorem glist_any {base g : Nat} {S : Gs} (w : World) (hS : GAt w base g S) (hI : GInv S) :
    Calls Try.prog 41 #[Pt g] w (MakesO w.heap.size (optsOf S) w) := by
  obtain ⟨vc, m, F, HM⟩ := hS
  obtain ⟨cs, CS⟩ : ∃ cs, Hid (S.map (·.1) = cs) := ⟨_, hide rfl⟩
  rw [CS.out] at HM
  have CL := hide (show cs.length = S.length by rw [← CS.out, List.length_map])
  have c128 : cs.length ≤ 128 := by have := CL.out; have := hI.1; omega
  have ND := hide hI.2.1
  have k0 := cell_at HM.box 0
  simp at k0
  obtain ⟨pc, cc, rfl⟩ := ownB_len HM.codes
  have HH := hide HM
  have O0 : OwnO w w.heap.size (.slice none 0 0) (optsOf (S.take 0)) := ownO_nil _ _
  clear HM hI
  go_enter Try.func41, Try.ntmps41
  go_wp2
  go_loopw [3, 11] (fun vl vi wr => ∃ k : Nat, k ≤ cs.length ∧ vi = .int .i64 (k : Nat) ∧ Below w.heap.size w wr ∧ OwnO wr w.heap.size vl (optsOf (S.take k))) (fun _ vi _ => cs.length - (intOf vi).toNat)
  case atStart => exact ⟨0, Nat.zero_le _, rfl, Below.refl _ _, O0⟩
  case round =>
    obtain ⟨k, hk, rfl, HB, HO⟩ := hrel
    clear O0 k0
    have HB2 := hide HB
    have HO2 := hide HO
    by_cases hlt : k < cs.length
    · obtain ⟨x, hx⟩ : ∃ x, S[k]? = some x := ⟨_, List.getElem?_eq_getElem (by have := CL.out; omega)⟩
      have hc : cs[k]? = some x.1 := by rw [← CS.out, List.getElem?_map, hx]; rfl
      have HM2 := HH.out.step HB
      obtain ⟨gc, cp, e, _, _⟩ := HM2.codes.form (by omega)
      simp only [Value.slice.injEq] at e
      obtain ⟨rfl, _, rfl⟩ := e
      have ck : wr.cell? ⟨gc, k, none⟩ = some (.int .u8 (x.1.toNat : Int)) := by
        have := HM2.codes.cellAt k (by omega)
        rw [this]
        unfold cellsB
        rw [List.getElem?_map, hc]; rfl
      have k1 := cell_at HM2.box 1
      simp at k1
      have hD := gdat_at ND.out hx
      obtain ⟨v, hF, hOv⟩ : ∃ v, F x.1 = some v ∧ OwnB wr base v x.2 := by
        rcases HM2.dat x.1 with h | ⟨v, d, h1, h2, h3⟩
        · rw [hD] at h; cases h.1
        · rw [hD] at h2; cases h2; exact ⟨v, h1, h3⟩
      have LK := (HM2.map.yes hF).2
      have CV := conv_B hOv
      have ET := hide (optsOf_take hx)
      have SL := hide (show (optsOf (S.take k)).length = k by unfold optsOf; rw [List.length_map, List.length_take]; have := CL.out; omega)
      generalize optsOf (S.take k) = pre at *
      have W0 : w.heap.size ≤ wr.heap.size := HB.size
      clear HB HO HM2 hx hc hD hF hOv
      go_wp2_with (at_builtin; refine wpList_append_oneO rfl (.tmp 15) (.tmp 25) rfl w.heap.size _ pre rfl (own_keep HO2.out (below_alloc _ _)) wr.heap.size 1 (x.1, bs x.2) rfl own_two (by have := SL.out; omega) (Nat.le_trans W0 (below_alloc _ _).size) ?_; intro g3 c3 w3 q1 q2 q3 q4)
      go_roundw
      case rel => exact ⟨k + 1, hlt, by go_num, HB2.out.trans (((below_alloc _ _).mono W0).trans q2), by rw [ET.out]; exact q1⟩
      case measure => simp [intOf]; omega
    · have e : S.take k = S := List.take_of_length_le (by have := CL.out; omega)
      rw [e] at HO2
      clear HO e
      go_wp2
      go_ret
      exact ⟨_, rfl, HB2.out, HO2.out⟩
end Go.Proofs.Ytmoklodaeicpgaa
