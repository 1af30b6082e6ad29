/-
  Messages there and back: mathematics of wire4's laws. No program is named here. No condition beyond those in each theorem's own statement.
-/
import Derived.Test.YtmoklodaeicpgaaWG
namespace Go.Proofs.Ytmoklodaeicpgaa
open Go

/-! ### what is written is read -/
theorem fs_inj {a b : Hd} (h : a.fs = b.fs) : a = b := by
  cases a; cases b
  simp only [Hd.fs, List.cons.injEq, Fv.u8.injEq, Fv.u16.injEq, Fv.u32.injEq, Fv.st.injEq, and_true] at h
  obtain ⟨h1, h2, h3, h4, h5, h6, h7, h8, h9, h10, h11, h12, h13, h14⟩ := h
  subst h1 h2 h3 h4 h5 h6 h7 h8 h9 h10 h11 h12 h13 h14
  rfl
theorem bytesF_app (a b : List Fv) : bytesF (a ++ b) = bytesF a ++ bytesF b := by unfold bytesF; rw [List.flatMap_append]
theorem offs_at {m : Hd} (hm : soundH m = true) : ∀ k, k ≤ 14 → offs[k]? = some (bytesF (m.fs.take k)).length := by
  unfold soundH at hm
  rw [decide_eq_true_eq] at hm
  obtain ⟨h1, h2, h3⟩ := hm
  intro k hk
  have e1 : (lb m.hard).length = 16 := by rw [lb_len, h1]
  have e2 : (lb m.name).length = 64 := by rw [lb_len, h2]
  have e3 : (lb m.file).length = 128 := by rw [lb_len, h3]
  rcases k with _ | _ | _ | _ | _ | _ | _ | _ | _ | _ | _ | _ | _ | _ | _ | k
  all_goals first
    | omega
    | (simp only [offs, bytesF, Hd.fs, List.take_succ_cons, List.take_zero, List.flatMap_cons, List.flatMap_nil, List.length_append, Fv.bytes_len, Fv.len, h1, h2, h3, List.length_nil]; rfl)
def sameKind (f g : Fv) : Prop := match f, g with | .u8 _, .u8 _ => True | .u16 _, .u16 _ => True | .u32 _, .u32 _ => True | .st x, .st y => x.size = y.size | _, _ => False
theorem get_of {f g : Fv} {s : ByteArray} {p r : List UInt8} (h : lb s = p ++ (f.bytes ++ r)) (hk : sameKind f g) : g.get s p.length = f :=
  Fv.get_at h (by cases f <;> cases g <;> exact hk)
theorem kind_at {m : Hd} (hm : soundH m = true) {k : Nat} {f g : Fv} (hf : m.fs[k]? = some f) (hg : blankH.fs[k]? = some g) : sameKind f g := by
  unfold soundH at hm
  rw [decide_eq_true_eq] at hm
  obtain ⟨h1, h2, h3⟩ := hm
  have hk : k < 14 := (List.getElem?_eq_some_iff.1 hf).1
  rcases k with _ | _ | _ | _ | _ | _ | _ | _ | _ | _ | _ | _ | _ | _ | k
  all_goals first
    | omega
    | (cases hf; cases hg; trivial)
    | (cases hf; cases hg; exact h1.trans (nul_size 16).symm)
    | (cases hf; cases hg; exact h2.trans (nul_size 64).symm)
    | (cases hf; cases hg; exact h3.trans (nul_size 128).symm)
theorem getH_of {m : Hd} (hm : soundH m = true) {s : ByteArray} {r : List UInt8} (h : lb s = bytesF m.fs ++ r) : getH s = m := by
  apply fs_inj
  refine List.ext_getElem? fun k => ?_
  by_cases hk : k < 14
  · obtain ⟨g, a, q1, q2, q3, _⟩ := getH_at s k hk
    obtain ⟨f, hf⟩ : ∃ f, m.fs[k]? = some f := ⟨_, List.getElem?_eq_getElem (show k < m.fs.length from hk)⟩
    rw [q3, hf]
    have ho := offs_at hm k (by omega)
    rw [q2] at ho
    have ha : a = (bytesF (m.fs.take k)).length := Option.some.inj ho
    subst ha
    congr 1
    refine get_of (f := f) (g := g) (p := bytesF (m.fs.take k)) (r := bytesF (m.fs.drop (k + 1)) ++ r) ?_ (kind_at hm hf q1)
    rw [h]
    have e : m.fs = m.fs.take k ++ f :: m.fs.drop (k + 1) := by
      have := List.drop_eq_getElem_cons (show k < m.fs.length from hk)
      rw [show m.fs[k] = f from (List.getElem?_eq_some_iff.1 hf).2] at this
      rw [← this, List.take_append_drop]
    conv => lhs; rw [e, bytesF_app]
    rw [show bytesF (f :: m.fs.drop (k + 1)) = f.bytes ++ bytesF (m.fs.drop (k + 1)) from rfl]
    simp only [List.append_assoc]
  · rw [List.getElem?_eq_none (by rw [Hd.fs_len]; omega), List.getElem?_eq_none (by rw [Hd.fs_len]; omega)]
theorem kept_all {c : UInt8} {l : List Opt} (h : hasC c l = false) : kept c l = l := by
  unfold hasC at h
  rw [List.any_eq_false] at h
  unfold kept
  rw [List.filter_eq_self]
  intro x hx
  have := h x hx
  simpa using this
theorem ovN_none {l : List Opt} (h : hasC 52 l = false) : ovN l = some 0 := by unfold ovN; rw [if_pos h]
theorem headN_zero (h : Hd) : headN h 0 = h := rfl
theorem areasL_zero (s : ByteArray) (h : Hd) : areasL s h 0 = [(lb s).drop 240] := rfl
theorem parse_emitO {l : List Opt} (h : emitE l = 0) : parseE [emitS l] = 0 ∧ parseO [emitS l] = l := by
  have p := parse_emit1 h
  have e : parseE [emitS l] = 0 := by unfold parseE; rw [p]
  refine ⟨e, ?_⟩
  unfold parseO
  rw [if_pos e, p]
  exact opts_gs l
def areasR (r : List UInt8) (h : Hd) (n : Nat) : List (List UInt8) := r :: ((if n = 1 ∨ n = 3 then [lb h.file] else []) ++ (if n = 2 ∨ n = 3 then [lb h.name] else []))
/-- bytes whose head, cookie and area are these -/
theorem dec_area {m : Hd} (hm : soundH m = true) {s : ByteArray} {r : List UInt8} (h : lb s = bytesF m.fs ++ (cookieL ++ r)) (hs : s.size ≤ 65507) :
    decR s = (if parseE [r] ≠ 0 then (parseE [r], zeroH, []) else match ovN (parseO [r]) with
      | none => (130, zeroH, [])
      | some n => if parseE (areasR r m n) ≠ 0 then (parseE (areasR r m n), zeroH, []) else (0, headN m n, kept 52 (parseO (areasR r m n)))) := by
  have hl := bytesF_size hm
  have hz : s.size = 236 + (4 + r.length) := by rw [← lb_len, h, List.length_append, List.length_append, hl]; rfl
  have e1 : sub s 236 4 = bs cookieL := by
    have := sub_at (p := bytesF m.fs) (q := cookieL) (r := r) h
    rw [hl] at this
    exact this
  have e2 : (lb s).drop 240 = r := by
    rw [h, show 240 = (bytesF m.fs).length + 4 by rw [hl], ← List.drop_drop, List.drop_left]
    rfl
  have e3 : ∀ n, areasL s m n = areasR r m n := fun n => by unfold areasL areasR; rw [e2]
  unfold decR
  rw [if_neg (by omega), if_neg (by omega), if_neg (fun e => e e1), e2, getH_of hm h]
  simp only [e3]
  rfl
theorem dec_enc {m : Ms} (h : encE m = 0) : decR (bs (encS m)) = (0, m.1, m.2) := by
  obtain ⟨h1, h2, h3, h4⟩ := encE_zero h
  have he : encS m = encL m := by unfold encS; rw [if_pos h]
  rw [he]
  have hb : lb (bs (encL m)) = bytesF m.1.fs ++ (cookieL ++ emitS m.2) := lb_bs _
  obtain ⟨p1, p2⟩ := parse_emitO h2
  rw [dec_area h1 hb (by rw [bs_size]; exact h4), p1, if_neg (fun e => e rfl), p2, ovN_none h3]
  have ar : areasR (emitS m.2) m.1 0 = [emitS m.2] := rfl
  simp only [ar, p1, p2, kept_all h3, headN_zero]
  rfl
theorem enc_size {m : Ms} (h : encE m = 0) : 241 ≤ (encS m).length ∧ (encS m).length ≤ 65507 := by
  obtain ⟨h1, h2, h3, h4⟩ := encE_zero h
  have he : encS m = encL m := by unfold encS; rw [if_pos h]
  rw [he]
  refine ⟨?_, h4⟩
  unfold encL emitS
  rw [if_pos h2, List.length_append, List.length_append, List.length_append, bytesF_size h1]
  show 241 ≤ 236 + (4 + ((emitB m.2).length + 1))
  omega
/-! ### what is read can be written -/
theorem kept_opts (S : Gs) (c : UInt8) : kept c (optsOf S) = optsOf (S.filter (fun x => !decide (x.1 = c))) := by
  unfold kept optsOf
  rw [List.filter_map]; rfl
theorem ginv_filter {S : Gs} (h : GInv S) (p : UInt8 × List UInt8 → Bool) : GInv (S.filter p) := by
  obtain ⟨g1, g2, g3⟩ := h
  refine ⟨Nat.le_trans (List.length_filter_le _ _) g1, ?_, fun x hx => g3 x (List.mem_filter.1 hx).1⟩
  exact List.Nodup.sublist (List.Sublist.map _ List.filter_sublist) g2
theorem kept_has (c : UInt8) (l : List Opt) : hasC c (kept c l) = false := by
  unfold hasC
  rw [List.any_eq_false]
  intro x hx
  unfold kept at hx
  have := (List.mem_filter.1 hx).2
  simpa using this
theorem dec_ok {s : ByteArray} (h : (decR s).1 = 0) : ¬ 65507 < s.size ∧ ¬ s.size < 240 ∧ ∃ n, n ≤ 3 ∧ parseE (areasL s (getH s) n) = 0 ∧ decR s = (0, headN (getH s) n, kept 52 (parseO (areasL s (getH s) n))) := by
  unfold decR at h ⊢
  by_cases h1 : 65507 < s.size
  · rw [if_pos h1] at h; cases h
  rw [if_neg h1] at h ⊢
  by_cases h2 : s.size < 240
  · rw [if_pos h2] at h; cases h
  rw [if_neg h2] at h ⊢
  by_cases h3 : sub s 236 4 ≠ bs cookieL
  · rw [if_pos h3] at h; cases h
  rw [if_neg h3] at h ⊢
  by_cases h4 : parseE [(lb s).drop 240] ≠ 0
  · rw [if_pos h4] at h; exact absurd h h4
  rw [if_neg h4] at h ⊢
  cases h5 : ovN (parseO [(lb s).drop 240]) with
  | none => rw [h5] at h; cases h
  | some n =>
    rw [h5] at h
    refine ⟨h1, h2, n, ovN_le h5, ?_⟩
    by_cases h6 : parseE (areasL s (getH s) n) ≠ 0
    · have h : (if parseE (areasL s (getH s) n) ≠ 0 then (parseE (areasL s (getH s) n), zeroH, []) else ((0, headN (getH s) n, kept 52 (parseO (areasL s (getH s) n))) : Nat × Hd × List Opt)).1 = 0 := h
      rw [if_pos h6] at h; exact absurd h h6
    · have h6 : parseE (areasL s (getH s) n) = 0 := Classical.not_not.1 h6
      refine ⟨h6, ?_⟩
      show (if parseE (areasL s (getH s) n) ≠ 0 then _ else _) = _
      rw [if_neg (fun e => e h6)]
theorem dec_sound {s : ByteArray} (h : (decR s).1 = 0) : soundM (decR s).2 = true := by
  obtain ⟨h1, h2, n, hn, hp, e⟩ := dec_ok h
  rw [e]
  have sz : sizH (getH s) := ⟨sub_size (by omega), sub_size (by omega)⟩
  have hh : (getH s).hard.size = 16 := sub_size (by omega)
  have s1 : soundH (headN (getH s) n) = true := by
    unfold soundH
    rw [decide_eq_true_eq]
    refine ⟨hh, ?_, ?_⟩
    · show (if n = 2 ∨ n = 3 then nul 64 else (getH s).name).size = 64
      split
      · exact nul_size 64
      · exact sz.2
    · show (if n = 1 ∨ n = 3 then nul 128 else (getH s).file).size = 128
      split
      · exact nul_size 128
      · exact sz.1
  have s2 : emitE (kept 52 (parseO (areasL s (getH s) n))) = 0 := by
    unfold parseO
    rw [if_pos hp, kept_opts]
    exact emit_ginv (ginv_filter (ginv_parse _ _ ginv_nil) _)
  unfold soundM
  rw [s1, s2, kept_has]; rfl
/-- how long an option is -/
def plen (n : Nat) : Nat := n + 2 * ((n - 1) / 255 + 1)
theorem pieces_plen : ∀ (n : Nat) (c : UInt8) (d : List UInt8), d.length ≤ n → (pieces c d).length = plen d.length
  | n, c, d, h => by
    by_cases e : 255 < d.length
    · rw [pieces_more e]
      obtain ⟨m, rfl⟩ : ∃ m, n = m + 1 := ⟨n - 1, by omega⟩
      have := pieces_plen m c (d.drop 255) (by rw [List.length_drop]; omega)
      rw [List.length_append, this, List.length_drop, List.length_cons, List.length_cons, List.length_take]
      unfold plen
      omega
    · rw [pieces_last e]
      unfold plen
      simp only [List.length_cons]
      omega
def wgt (S : Gs) : Nat := (S.map (fun x => plen x.2.length)).sum
theorem emitB_wgt (S : Gs) : (emitB (optsOf S)).length = wgt S := by
  unfold emitB optsOf wgt
  rw [List.length_flatMap, List.map_map]
  congr 1
  refine List.map_congr_left fun x _ => ?_
  show (pieces x.1 (lb (bs x.2))).length = plen x.2.length
  rw [lb_bs]
  exact pieces_plen _ _ _ (Nat.le_refl _)
theorem wgt_put {S : Gs} {c : UInt8} {p : List UInt8} (hp : p.length ≤ 255) : wgt (gput S c p) ≤ wgt S + p.length + 2 := by
  induction S with
  | nil =>
    show plen p.length + 0 ≤ 0 + p.length + 2
    unfold plen; omega
  | cons x r ih =>
    unfold gput
    by_cases e : x.1 = c
    · rw [if_pos e]
      show plen (x.2 ++ p).length + wgt r ≤ plen x.2.length + wgt r + p.length + 2
      rw [List.length_append]
      unfold plen; omega
    · rw [if_neg e]
      show plen x.2.length + wgt (gput r c p) ≤ plen x.2.length + wgt r + p.length + 2
      omega
theorem wgt_read : ∀ (n : Nat) (l : List UInt8) (S : Gs), wgt (readL n l S).2 ≤ wgt S + l.length
  | 0, _, S => by show wgt S ≤ _; omega
  | _ + 1, [], S => by show wgt S ≤ _; omega
  | n + 1, c :: r, S => by
    unfold readL
    by_cases e1 : c = 255
    · rw [if_pos e1]; show wgt S ≤ _; omega
    rw [if_neg e1]
    by_cases e2 : c = 0
    · rw [if_pos e2]
      have := wgt_read n r S
      rw [List.length_cons]; omega
    rw [if_neg e2]
    cases r with
    | nil => show wgt S ≤ _; omega
    | cons k r2 =>
      show wgt (if r2.length < k.toNat then _ else _ : Nat × Gs).2 ≤ _
      by_cases e3 : r2.length < k.toNat
      · rw [if_pos e3]; show wgt S ≤ _; omega
      rw [if_neg e3]
      have hk := k.toNat_lt
      have hl : (r2.take k.toNat).length = k.toNat := by rw [List.length_take]; omega
      cases e4 : addG S c (r2.take k.toNat) with
      | none => show wgt S ≤ _; omega
      | some S2 =>
        have h1 := wgt_read n (r2.drop k.toNat) S2
        have h2 : wgt S2 ≤ wgt S + k.toNat + 2 := by
          unfold addG at e4
          split at e4
          · cases e4
          · cases e4
            have := wgt_put (S := S) (c := c) (p := r2.take k.toNat) (by omega)
            omega
        show wgt (readL n (r2.drop k.toNat) S2).2 ≤ _
        rw [List.length_drop] at h1
        simp only [List.length_cons]
        omega
theorem wgt_parse : ∀ (ar : List (List UInt8)) (S : Gs), wgt (parseL ar S).2 ≤ wgt S + ar.flatten.length
  | [], S => by show wgt S ≤ _; omega
  | a :: r, S => by
    have h1 := wgt_read a.length a S
    unfold parseL
    rw [List.flatten_cons, List.length_append]
    split
    · have h2 := wgt_parse r (readA a S).2
      have h1 : wgt (readA a S).2 ≤ wgt S + a.length := h1
      omega
    · have h1 : wgt (readA a S).2 ≤ wgt S + a.length := h1
      omega
theorem wgt_filter (S : Gs) (p : UInt8 × List UInt8 → Bool) : wgt (S.filter p) ≤ wgt S := by
  induction S with
  | nil => simp [wgt]
  | cons x r ih =>
    rw [List.filter_cons]
    split
    · show plen x.2.length + wgt (r.filter p) ≤ plen x.2.length + wgt r
      omega
    · show wgt (r.filter p) ≤ plen x.2.length + wgt r
      omega
theorem dec_again {s : ByteArray} (h : (decR s).1 = 0) (hs : s.size ≤ 65251) : encE (decR s).2 = 0 := by
  have hS := dec_sound h
  obtain ⟨h1, h2, n, hn, hp, e⟩ := dec_ok h
  unfold encE
  rw [if_pos hS, if_neg]
  have hh : soundH (decR s).2.1 = true := by unfold soundM at hS; simp only [Bool.and_eq_true] at hS; exact hS.1.1
  have he : emitE (decR s).2.2 = 0 := by unfold soundM at hS; simp only [Bool.and_eq_true, decide_eq_true_eq] at hS; exact hS.1.2
  unfold encL emitS
  rw [if_pos he, List.length_append, List.length_append, List.length_append, bytesF_size hh]
  have ha : (areasL s (getH s) n).flatten.length ≤ s.size - 240 + 192 := by
    have f1 : (lb (getH s).file).length = 128 := by rw [lb_len]; exact sub_size (by omega)
    have f2 : (lb (getH s).name).length = 64 := by rw [lb_len]; exact sub_size (by omega)
    unfold areasL
    rw [List.flatten_cons, List.length_append, List.length_drop, lb_len, List.flatten_append, List.length_append]
    split <;> split <;> simp [f1, f2]
  have hw : (emitB (decR s).2.2).length ≤ s.size - 240 + 192 := by
    rw [e]
    show (emitB (kept 52 (parseO (areasL s (getH s) n)))).length ≤ _
    unfold parseO
    rw [if_pos hp, kept_opts, emitB_wgt]
    have := wgt_parse (areasL s (getH s) n) []
    have := wgt_filter (parseL (areasL s (getH s) n) []).2 (fun x => !decide (x.1 = 52))
    have : wgt [] = 0 := rfl
    omega
  have h4 : cookieL.length = 4 := rfl
  simp only [List.length_cons, List.length_nil]
  omega
theorem dec_bad {s : ByteArray} (h : (decR s).1 ≠ 0) : (decR s).2 = (zeroH, []) := by
  unfold decR at h ⊢
  split
  · rfl
  split
  · rfl
  split
  · rfl
  split
  · rfl
  cases h5 : ovN (parseO [(lb s).drop 240]) with
  | none => rfl
  | some n =>
    show (if parseE (areasL s (getH s) n) ≠ 0 then (parseE (areasL s (getH s) n), zeroH, []) else ((0, headN (getH s) n, kept 52 (parseO (areasL s (getH s) n))) : Nat × Hd × List Opt)).2 = _
    split
    · rfl
    · rename_i a b c d g
      exfalso
      rw [if_neg a, if_neg b, if_neg c, if_neg d, h5] at h
      have h : (if parseE (areasL s (getH s) n) ≠ 0 then (parseE (areasL s (getH s) n), zeroH, []) else ((0, headN (getH s) n, kept 52 (parseO (areasL s (getH s) n))) : Nat × Hd × List Opt)).1 ≠ 0 := h
      rw [if_neg g] at h
      exact h rfl
end Go.Proofs.Ytmoklodaeicpgaa
