/-
  The document's own Due of layer 9. Conditions: at most 1024 leases, as a table has them.
-/
import Derived.Test.YtpldkgollhbolaaGreatRtE
namespace Go.Proofs.YtpldkgollhbolaaGreat
open Go.RowKit Go.Joins Go.Maps

variable {w w' V W W' : World} {L : List Ls} {v : Value}
theorem due_lt {y x : Ls} (h : y.un < x.un ∨ (y.un = x.un ∧ cmpL y x < 0)) : dueC y x < 0 := by
  unfold dueC or2 cmpI
  repeat' split
  all_goals omega
theorem due_le {y x : Ls} (h : dueC y x < 0) : y.un ≤ x.un := by
  unfold dueC or2 cmpI at h
  by_cases h1 : y.un ≤ x.un
  · exact h1
  · rw [if_neg (show ¬ y.un < x.un by omega), if_pos (show x.un < y.un by omega)] at h
    simp at h
theorem srt_lt {R : List Ls} (h : SrtL R) {i k : Nat} {x y : Ls} (hy : R[k]? = some y) (hx : R[i]? = some x) (hk : k < i) : cmpL y x < 0 := by
  obtain ⟨h1, rfl⟩ := List.getElem?_eq_some_iff.1 hy
  obtain ⟨h2, rfl⟩ := List.getElem?_eq_some_iff.1 hx
  exact List.pairwise_iff_getElem.1 h k i h1 h2 hk
/-- the best place among the first k: none, or j -/
def SelNo (R : List Ls) (now : Int) (k : Nat) : Prop := ∀ i x, i < k → R[i]? = some x → ¬ x.un ≤ now
def SelAt (R : List Ls) (now : Int) (k j : Nat) (y : Ls) : Prop := j < k ∧ R[j]? = some y ∧ y.un ≤ now ∧ ∀ i x, i < k → R[i]? = some x → x.un ≤ now → i ≠ j → dueC y x < 0
theorem sel_eq {R : List Ls} {k i : Nat} {x z : Ls} (hx : R[k]? = some x) (hi : i < k + 1) (hz : R[i]? = some z) : i < k ∨ (i = k ∧ z = x) := by
  rcases Nat.lt_or_ge i k with h | h
  · exact Or.inl h
  · have : i = k := by omega
    subst this
    rw [hx] at hz; cases hz
    exact Or.inr ⟨rfl, rfl⟩
theorem selNo_no {R : List Ls} {now : Int} {k : Nat} {x : Ls} (h : SelNo R now k) (hx : R[k]? = some x) (hn : ¬ x.un ≤ now) : SelNo R now (k + 1) := fun i z hi hz => by
  rcases sel_eq hx hi hz with h1 | ⟨_, rfl⟩
  · exact h i z h1 hz
  · exact hn
theorem selNo_new {R : List Ls} {now : Int} {k : Nat} {x : Ls} (h : SelNo R now k) (hx : R[k]? = some x) (hn : x.un ≤ now) : SelAt R now (k + 1) k x :=
  ⟨Nat.lt_succ_self _, hx, hn, fun i z hi hz hd hne => by
    rcases sel_eq hx hi hz with h1 | ⟨h1, _⟩
    · exact absurd hd (h i z h1 hz)
    · exact absurd h1 hne⟩
theorem selAt_no {R : List Ls} {now : Int} {k j : Nat} {x y : Ls} (h : SelAt R now k j y) (hx : R[k]? = some x) (hn : ¬ x.un ≤ now) : SelAt R now (k + 1) j y :=
  ⟨by have := h.1; omega, h.2.1, h.2.2.1, fun i z hi hz hd hne => by
    rcases sel_eq hx hi hz with h1 | ⟨_, rfl⟩
    · exact h.2.2.2 i z h1 hz hd hne
    · exact absurd hd hn⟩
theorem selAt_better {R : List Ls} {now : Int} {k j : Nat} {x y : Ls} (h : SelAt R now k j y) (hx : R[k]? = some x) (hn : x.un ≤ now) (hlt : x.un < y.un) : SelAt R now (k + 1) k x :=
  ⟨Nat.lt_succ_self _, hx, hn, fun i z hi hz hd hne => by
    rcases sel_eq hx hi hz with h1 | ⟨h1, _⟩
    · by_cases hj : i = j
      · subst hj
        have := h.2.1
        rw [hz] at this; cases this
        exact due_lt (Or.inl hlt)
      · have := due_le (h.2.2.2 i z h1 hz hd hj)
        exact due_lt (Or.inl (by omega))
    · exact absurd h1 hne⟩
theorem selAt_worse {R : List Ls} (hs : SrtL R) {now : Int} {k j : Nat} {x y : Ls} (h : SelAt R now k j y) (hx : R[k]? = some x) (hlt : ¬ x.un < y.un) : SelAt R now (k + 1) j y :=
  ⟨by have := h.1; omega, h.2.1, h.2.2.1, fun i z hi hz hd hne => by
    rcases sel_eq hx hi hz with h1 | ⟨_, rfl⟩
    · exact h.2.2.2 i z h1 hz hd hne
    · refine due_lt ?_
      have := srt_lt hs h.2.1 hx h.1
      by_cases e : y.un = z.un
      · exact Or.inr ⟨e, this⟩
      · exact Or.inl (by omega)⟩
/-- what is out, what is left -/
structure DueS (L : List Ls) (now : Int) (R F : List Ls) : Prop where
  sub : R.Sublist L
  perm : (F ++ R.filter (dueB now)).Perm (L.filter (dueB now))
  due : DueL F
  all : ∀ a ∈ F, ∀ b ∈ R, b.un ≤ now → dueC a b < 0
theorem DueS.start (L : List Ls) (now : Int) : DueS L now L [] := ⟨List.Sublist.refl _, by simp, .nil, fun a h => by simp at h⟩
theorem DueS.stop {now : Int} {R F : List Ls} (h : DueS L now R F) (hn : SelNo R now R.length) : F.Perm (L.filter (dueB now)) := by
  have e : R.filter (dueB now) = [] := by
    rw [List.filter_eq_nil_iff]
    intro y hy hd
    obtain ⟨i, hi⟩ := List.mem_iff_getElem?.1 hy
    exact hn i y (List.getElem?_eq_some_iff.1 hi).1 hi (of_decide_eq_true hd)
  have := h.perm
  rwa [e, List.append_nil] at this
theorem DueS.next (T : TabL L) {now : Int} {R F : List Ls} (h : DueS L now R F) {j : Nat} {y : Ls} (hs : SelAt R now R.length j y) : DueS L now (restL R y) (F ++ [y]) := by
  have G : GoodL R := T.good.sub h.sub
  have hy := List.mem_of_getElem? hs.2.1
  have P := rest_one G hy
  refine ⟨(restL_sub R y).trans h.sub, ?_, ?_, ?_⟩
  · refine List.Perm.trans ?_ h.perm
    rw [List.append_assoc]
    refine List.Perm.append_left F ?_
    have := P.filter (dueB now)
    rw [List.filter_cons_of_pos (show dueB now y = true from decide_eq_true hs.2.2.1)] at this
    exact this.symm
  · refine List.pairwise_append.2 ⟨h.due, by simp, fun a ha b hb => ?_⟩
    rw [List.mem_singleton.1 hb]
    exact h.all a ha y hy hs.2.2.1
  · intro a ha b hb hd
    obtain ⟨hb1, hb2⟩ := mem_restL.1 hb
    rcases List.mem_append.1 ha with ha | ha
    · exact h.all a ha b hb1 hd
    · rw [List.mem_singleton.1 ha]
      obtain ⟨i, hi⟩ := List.mem_iff_getElem?.1 hb1
      refine hs.2.2.2 i b (List.getElem?_eq_some_iff.1 hi).1 hi hd (fun e => ?_)
      subst e
      have := hs.2.1
      rw [hi] at this; cases this
      rw [keyB_self] at hb2; cases hb2
/-- append of one lease, by what else stays -/
theorem wpList_pushL2 {w : World} {ops : Array Oper} {rest : List Oper} {o : Oper} {a : Act} {Q : Exit → Act → World → Prop} (hgd : o.guard = none) (s x : Operand)
    (ho : o.op = .call { callee := .builtin .append, args := #[s, x], argTypes := #[43, 43] })
    (base : Nat) (v : Value) (pre : List Ls) (hs : a.eval s = v) (y : Ls) (W : World) (hw : w = W.alloc (.cells (leaseC y) 30)) (hown : OwnL W base v pre) (hx : a.eval x = .slice (some ⟨W.heap.size, 0, none⟩) 1 1)
    (hn : pre.length ≤ 5000) (hbase : base ≤ W.heap.size)
    (h : ∀ v' w', OwnL w' base v' (pre ++ [y]) → Below base W w' → Fr (fun k => some k = v.ownBlock) W w' → wpList Tryz.prog ops Q rest (a.put o.dst v') w') : wpList Tryz.prog ops Q (o :: rest) a w := by
  obtain ⟨i0, hi, hz0, hz1, hz2⟩ := info_parts infoL
  subst hw
  have O2 : (W.alloc (.cells (leaseC y) 30)).ownsRow base 30 8 v pre.length (cellsL pre) := own_fr hown (Fr.alloc W _) (fun _ _ e => e)
  refine wpList_append_lies _ hgd s x 43 ho base 30 i0 zLv 8 72 Tryz.underlying43 hi hz0 hz1 hz2 rfl (by decide) v pre.length (cellsL pre) hs O2 ⟨W.heap.size, 0, none⟩ 1 1 (wdL y) hx rfl (fun j u hu => World.news_of_block (alloc_at (W := W) (.cells (leaseC y) 30) rfl) j u hu) (wdL_cell y) (by decide) (by unfold maxLen; omega) (by omega) (by simp; omega) _ rfl ?_
  intro g2 cap2 w5 O5 G5 _ _
  refine h _ _ ?_ (((Below.refl base W).alloc hbase _).grown G5 (by simp; omega) (fun j e => (World.ownsRow.lt O2 j e).1)) ((Fr.alloc W _).no.trans (Fr.grown G5) (fun i _ e => e))
  unfold OwnL
  rw [cellsL_snoc, List.length_append]
  exact O5
def lenV : Value → Nat
  | .slice _ n _ => n
  | _ => 0
def RDuePost (w : World) (L : List Ls) (now : Int) (e : Ending) (w' : World) : Prop := ∃ R, R.Perm (L.filter (dueB now)) ∧ DueL R ∧ LsPost2 w R e w'
set_option maxRecDepth 100000 in
set_option maxHeartbeats 8000000 in
theorem rdue_any {u c : Nat} {p : Option Go.Addr} (h : RTab w u p c L) (T : TabL L) (now : Int) : Calls Tryz.prog 33 #[Pt u, .int .i64 now] w (RDuePost w L now) := by
  have TL := hide T
  have h24 := T.good.size
  have RA := hide (rall_any h (by omega))
  clear h T
  go_enter Tryz.func33, Tryz.ntmps33
  go_wp2_with fail
  refine RA.out.mono ?_
  rintro e w1 ⟨v1, rfl, hr1, hb1, hn1⟩
  obtain ⟨p1, c1, rfl, hl1, hnew1⟩ := hr1.lst
  have L1 := hide (hl1.step (below_alloc w1 (.cells #[] 30)))
  have OE := hide (ownL_empty w1)
  have B1 := hide hb1
  have BE1 := hide (below_alloc w1 (.cells #[] 30))
  have NW1 := hide (fun b o (e : p1 = some ⟨b, o, none⟩) (hne : L ≠ []) => (hnew1 b o e hne).2)
  clear RA hr1 hl1 hb1 hn1 hnew1
  go_wp2_with fail
  go_loopw [5, 6] (fun rv out wr => ∃ (R F : List Ls) (pr : Option Go.Addr) (cr : Nat) (ov : Value), rv = .slice pr R.length cr ∧ ov = out ∧ Hid (DueS L now R F) ∧ Hid (LstL pr R wr) ∧ Hid (OwnL wr w1.heap.size ov F) ∧ Hid (∀ b o, pr = some ⟨b, o, none⟩ → R ≠ [] → ov.ownBlock ≠ some b) ∧ Hid (Below w1.heap.size w1 wr)) (fun rv _ => fun _ => lenV rv)
  case atStart => exact ⟨L, [], p1, c1, _, rfl, rfl, hide (DueS.start L now), L1, OE, hide (fun b o e hne h => by have := NW1.out b o e hne; simp [Value.ownBlock] at h; omega), BE1⟩
  case round =>
    clear L1 OE BE1 NW1
    obtain ⟨R, F, pr, cr, ov, rfl, rfl, HD, HR, HO, HNE, HB⟩ := hrel
    have hR : R.length ≤ 1024 := Nat.le_trans HD.out.sub.length_le h24
    have hF : F.length ≤ 1024 := by
      have := HD.out.perm.length_eq
      rw [List.length_append] at this
      have := List.length_filter_le (dueB now) L
      omega
    have hRI : (R.length : Int) ≤ 1024 := by omega
    have SR := hide (TL.out.srt.sublist HD.out.sub)
    go_wp2_with fail
    go_loopw [7, 8] (fun av ii wq => ∃ (k : Nat) (at' : Int), k ≤ R.length ∧ ii = .int .i64 (k : Nat) ∧ av = .int .i64 at' ∧ Hid ((at' = -1 ∧ SelNo R now k) ∨ ∃ (j : Nat) (y : Ls), at' = (j : Int) ∧ SelAt R now k j y) ∧ Hid (Below wr.heap.size wr wq)) (fun _ ii => fun _ => R.length - (intOf ii).toNat)
    case atStart => exact ⟨0, -1, Nat.zero_le _, rfl, rfl, hide (Or.inl ⟨rfl, fun i x hi _ => by omega⟩), hide (Below.refl _ _)⟩
    case round =>
      obtain ⟨k, at', hk, rfl, rfl, HS, HQ⟩ := hrel
      have hk0 : (0 : Int) ≤ (k : Int) := by omega
      by_cases hlt : k < R.length
      · have hlt2 : (k : Int) < (R.length : Int) := by omega
        obtain ⟨x, hx⟩ : ∃ x, R[k]? = some x := ⟨_, List.getElem?_eq_getElem hlt⟩
        have HXX := hide hx
        have HRK := hide (HR.out.step HQ.out)
        obtain ⟨b, o, rfl, hat⟩ := HRK.out k x hx
        have HX := hide (fun W (H : NB wr W) => hat.st H)
        clear hx hat
        by_cases hd : x.un ≤ now
        · have hdb : decide (x.un ≤ now) = true := decide_eq_true hd
          rcases HS.out with ⟨rfl, hno⟩ | ⟨j, y, rfl, hsel⟩
          · have HN := hide (selNo_new hno HXX.out hd)
            clear hno HRK
            go_wp2_with fail
            refine wp_region_quiet (C := NB wr) (by kernel_rfl) (by kernel_rfl) (below_drew wr) (wpQuiet_step (fun K0 hK0 => ?_))
            go_simp
            first | (with_reducible refine hK0 _ (wpQuiet_step (fun K1 hK1 => ?_))) | (with_reducible refine ⟨_, fun _ _ => rfl, hK0 _ (wpQuiet_step (fun K1 hK1 => ?_))⟩) | (rw [if_neg (by intro e; cases e)]; with_reducible refine hK0 _ (wpQuiet_step (fun K1 hK1 => ?_)))
            clear hK0 K0
            go_simp
            first | (with_reducible refine hK1 _ (wpQuiet_step (fun K0 hK0 => ?_))) | (with_reducible refine ⟨_, fun _ _ => rfl, hK1 _ (wpQuiet_step (fun K0 hK0 => ?_))⟩) | (rw [if_neg (by intro e; cases e)]; with_reducible refine hK1 _ (wpQuiet_step (fun K0 hK0 => ?_)))
            clear hK1 K1
            go_simp
            first | (with_reducible refine hK0 _ (wpQuiet_step (fun K1 hK1 => ?_))) | (with_reducible refine ⟨_, fun _ _ => rfl, hK0 _ (wpQuiet_step (fun K1 hK1 => ?_))⟩) | (rw [if_neg (by intro e; cases e)]; with_reducible refine hK0 _ (wpQuiet_step (fun K1 hK1 => ?_)))
            clear hK0 K0
            go_simp
            first | (with_reducible refine hK1 _ (wpQuiet_step (fun K0 hK0 => ?_))) | (with_reducible refine ⟨_, fun _ _ => rfl, hK1 _ (wpQuiet_step (fun K0 hK0 => ?_))⟩) | (rw [if_neg (by intro e; cases e)]; with_reducible refine hK1 _ (wpQuiet_step (fun K0 hK0 => ?_)))
            clear hK1 K1
            go_simp
            refine ⟨.int .i64 x.un, fun W hW => ?_, hK0 _ (wpQuiet_step (fun K1 hK1 => ?_))⟩
            · ((obtain ⟨u0, u1, u2, u3, u4, u5, u6, u7⟩ := HX.out W hW; simp [go_sem, u7]))
            clear hK0 K0
            go_simp
            first | (with_reducible refine hK1 _ (wpQuiet_step (fun K0 hK0 => ?_))) | (with_reducible refine ⟨_, fun _ _ => rfl, hK1 _ (wpQuiet_step (fun K0 hK0 => ?_))⟩) | (rw [if_neg (by intro e; cases e)]; with_reducible refine hK1 _ (wpQuiet_step (fun K0 hK0 => ?_)))
            clear hK1 K1
            go_simp
            first | (with_reducible refine hK0 _ (wpQuiet_step (fun K1 hK1 => ?_))) | (with_reducible refine ⟨_, fun _ _ => rfl, hK0 _ (wpQuiet_step (fun K1 hK1 => ?_))⟩) | (rw [if_neg (by intro e; cases e)]; with_reducible refine hK0 _ (wpQuiet_step (fun K1 hK1 => ?_)))
            clear hK0 K0
            go_simp
            first | (with_reducible refine hK1 _ (wpQuiet_step (fun K0 hK0 => ?_))) | (with_reducible refine ⟨_, fun _ _ => rfl, hK1 _ (wpQuiet_step (fun K0 hK0 => ?_))⟩) | (rw [if_neg (by intro e; cases e)]; with_reducible refine hK1 _ (wpQuiet_step (fun K0 hK0 => ?_)))
            clear hK1 K1
            go_simp
            first | (with_reducible refine hK0 _ (wpQuiet_step (fun K1 hK1 => ?_))) | (with_reducible refine ⟨_, fun _ _ => rfl, hK0 _ (wpQuiet_step (fun K1 hK1 => ?_))⟩) | (rw [if_neg (by intro e; cases e)]; with_reducible refine hK0 _ (wpQuiet_step (fun K1 hK1 => ?_)))
            clear hK0 K0
            go_simp
            first | (with_reducible refine hK1 _ (wpQuiet_step (fun K0 hK0 => ?_))) | (with_reducible refine ⟨_, fun _ _ => rfl, hK1 _ (wpQuiet_step (fun K0 hK0 => ?_))⟩) | (rw [if_neg (by intro e; cases e)]; with_reducible refine hK1 _ (wpQuiet_step (fun K0 hK0 => ?_)))
            clear hK1 K1
            go_simp
            first | (with_reducible refine hK0 _ (wpQuiet_step (fun K1 hK1 => ?_))) | (with_reducible refine ⟨_, fun _ _ => rfl, hK0 _ (wpQuiet_step (fun K1 hK1 => ?_))⟩) | (rw [if_neg (by intro e; cases e)]; with_reducible refine hK0 _ (wpQuiet_step (fun K1 hK1 => ?_)))
            clear hK0 K0
            go_simp
            first | (with_reducible refine hK1 _ (wpQuiet_step (fun K0 hK0 => ?_))) | (with_reducible refine ⟨_, fun _ _ => rfl, hK1 _ (wpQuiet_step (fun K0 hK0 => ?_))⟩) | (rw [if_neg (by intro e; cases e)]; with_reducible refine hK1 _ (wpQuiet_step (fun K0 hK0 => ?_)))
            clear hK1 K1
            go_simp
            first | (with_reducible refine hK0 _ (wpQuiet_step (fun K1 hK1 => ?_))) | (with_reducible refine ⟨_, fun _ _ => rfl, hK0 _ (wpQuiet_step (fun K1 hK1 => ?_))⟩) | (rw [if_neg (by intro e; cases e)]; with_reducible refine hK0 _ (wpQuiet_step (fun K1 hK1 => ?_)))
            clear hK0 K0
            go_simp
            first | (with_reducible refine hK1 _ (wpQuiet_step (fun K0 hK0 => ?_))) | (with_reducible refine ⟨_, fun _ _ => rfl, hK1 _ (wpQuiet_step (fun K0 hK0 => ?_))⟩) | (rw [if_neg (by intro e; cases e)]; with_reducible refine hK1 _ (wpQuiet_step (fun K0 hK0 => ?_)))
            clear hK1 K1
            go_simp
            first | (with_reducible refine hK0 _ (wpQuiet_step (fun K1 hK1 => ?_))) | (with_reducible refine ⟨_, fun _ _ => rfl, hK0 _ (wpQuiet_step (fun K1 hK1 => ?_))⟩) | (rw [if_neg (by intro e; cases e)]; with_reducible refine hK0 _ (wpQuiet_step (fun K1 hK1 => ?_)))
            clear hK0 K0
            go_simp
            first | (with_reducible refine hK1 _ (wpQuiet_step (fun K0 hK0 => ?_))) | (with_reducible refine ⟨_, fun _ _ => rfl, hK1 _ (wpQuiet_step (fun K0 hK0 => ?_))⟩) | (rw [if_neg (by intro e; cases e)]; with_reducible refine hK1 _ (wpQuiet_step (fun K0 hK0 => ?_)))
            clear hK1 K1
            go_simp
            first | (with_reducible refine hK0 _ (wpQuiet_step (fun K1 hK1 => ?_))) | (with_reducible refine ⟨_, fun _ _ => rfl, hK0 _ (wpQuiet_step (fun K1 hK1 => ?_))⟩) | (rw [if_neg (by intro e; cases e)]; with_reducible refine hK0 _ (wpQuiet_step (fun K1 hK1 => ?_)))
            clear hK0 K0
            go_simp
            first | (with_reducible refine hK1 _ (wpQuiet_step (fun K0 hK0 => ?_))) | (with_reducible refine ⟨_, fun _ _ => rfl, hK1 _ (wpQuiet_step (fun K0 hK0 => ?_))⟩) | (rw [if_neg (by intro e; cases e)]; with_reducible refine hK1 _ (wpQuiet_step (fun K0 hK0 => ?_)))
            clear hK1 K1
            go_simp
            first | (with_reducible refine hK0 _ (wpQuiet_step (fun K1 hK1 => ?_))) | (with_reducible refine ⟨_, fun _ _ => rfl, hK0 _ (wpQuiet_step (fun K1 hK1 => ?_))⟩) | (rw [if_neg (by intro e; cases e)]; with_reducible refine hK0 _ (wpQuiet_step (fun K1 hK1 => ?_)))
            clear hK0 K0
            go_simp
            first | (with_reducible refine hK1 _ (wpQuiet_step (fun K0 hK0 => ?_))) | (with_reducible refine ⟨_, fun _ _ => rfl, hK1 _ (wpQuiet_step (fun K0 hK0 => ?_))⟩) | (rw [if_neg (by intro e; cases e)]; with_reducible refine hK1 _ (wpQuiet_step (fun K0 hK0 => ?_)))
            clear hK1 K1
            go_simp
            first | (with_reducible refine hK0 _ (wpQuiet_step (fun K1 hK1 => ?_))) | (with_reducible refine ⟨_, fun _ _ => rfl, hK0 _ (wpQuiet_step (fun K1 hK1 => ?_))⟩) | (rw [if_neg (by intro e; cases e)]; with_reducible refine hK0 _ (wpQuiet_step (fun K1 hK1 => ?_)))
            clear hK0 K0
            go_simp
            first | (with_reducible refine hK1 _ (wpQuiet_step (fun K0 hK0 => ?_))) | (with_reducible refine ⟨_, fun _ _ => rfl, hK1 _ (wpQuiet_step (fun K0 hK0 => ?_))⟩) | (rw [if_neg (by intro e; cases e)]; with_reducible refine hK1 _ (wpQuiet_step (fun K0 hK0 => ?_)))
            clear hK1 K1
            go_simp
            first | (with_reducible refine hK0 _ (wpQuiet_step (fun K1 hK1 => ?_))) | (with_reducible refine ⟨_, fun _ _ => rfl, hK0 _ (wpQuiet_step (fun K1 hK1 => ?_))⟩) | (rw [if_neg (by intro e; cases e)]; with_reducible refine hK0 _ (wpQuiet_step (fun K1 hK1 => ?_)))
            clear hK0 K0
            go_simp
            first | (with_reducible refine hK1 _ (wpQuiet_nil ?_)) | (with_reducible refine ⟨_, fun _ _ => rfl, hK1 _ (wpQuiet_nil ?_)⟩) | (rw [if_neg (by intro e; cases e)]; with_reducible refine hK1 _ (wpQuiet_nil ?_))
            clear hK1 K1
            intro w2 H2
            have HB2 := hide (HQ.out.trans (H2.mono HQ.out.size))
            clear HX H2 HQ HS
            go_wp2
            go_roundw
            case rel => exact ⟨k + 1, (k : Int), hlt, by go_num, rfl, hide (Or.inr ⟨k, x, rfl, HN.out⟩), HB2⟩
            case measure => simp [intOf]; omega
          · have hj0 : (0 : Int) ≤ (j : Int) := by omega
            have hjn : ¬ (j : Int) < 0 := by omega
            have hj1 : (j : Int) < (R.length : Int) := by have := hsel.1; omega
            obtain ⟨b2, o2, e2, hat2⟩ := HRK.out j y hsel.2.1
            cases e2
            have HY := hide (fun W (H : NB wr W) => hat2.st H)
            have SB := hide (fun h => selAt_better hsel HXX.out hd h)
            have SW := hide (fun h => selAt_worse SR.out hsel HXX.out h)
            clear hsel hat2 HRK
            by_cases hc : x.un < y.un
            · go_wp2_with fail
              refine wp_region_quiet (C := NB wr) (by kernel_rfl) (by kernel_rfl) (below_drew wr) (wpQuiet_step (fun K0 hK0 => ?_))
              go_simp
              first | (with_reducible refine hK0 _ (wpQuiet_step (fun K1 hK1 => ?_))) | (with_reducible refine ⟨_, fun _ _ => rfl, hK0 _ (wpQuiet_step (fun K1 hK1 => ?_))⟩) | (rw [if_neg (by intro e; cases e)]; with_reducible refine hK0 _ (wpQuiet_step (fun K1 hK1 => ?_)))
              clear hK0 K0
              go_simp
              first | (with_reducible refine hK1 _ (wpQuiet_step (fun K0 hK0 => ?_))) | (with_reducible refine ⟨_, fun _ _ => rfl, hK1 _ (wpQuiet_step (fun K0 hK0 => ?_))⟩) | (rw [if_neg (by intro e; cases e)]; with_reducible refine hK1 _ (wpQuiet_step (fun K0 hK0 => ?_)))
              clear hK1 K1
              go_simp
              first | (with_reducible refine hK0 _ (wpQuiet_step (fun K1 hK1 => ?_))) | (with_reducible refine ⟨_, fun _ _ => rfl, hK0 _ (wpQuiet_step (fun K1 hK1 => ?_))⟩) | (rw [if_neg (by intro e; cases e)]; with_reducible refine hK0 _ (wpQuiet_step (fun K1 hK1 => ?_)))
              clear hK0 K0
              go_simp
              first | (with_reducible refine hK1 _ (wpQuiet_step (fun K0 hK0 => ?_))) | (with_reducible refine ⟨_, fun _ _ => rfl, hK1 _ (wpQuiet_step (fun K0 hK0 => ?_))⟩) | (rw [if_neg (by intro e; cases e)]; with_reducible refine hK1 _ (wpQuiet_step (fun K0 hK0 => ?_)))
              clear hK1 K1
              go_simp
              refine ⟨.int .i64 x.un, fun W hW => ?_, hK0 _ (wpQuiet_step (fun K1 hK1 => ?_))⟩
              · ((obtain ⟨u0, u1, u2, u3, u4, u5, u6, u7⟩ := HX.out W hW; simp [go_sem, u7]))
              clear hK0 K0
              go_simp
              first | (with_reducible refine hK1 _ (wpQuiet_step (fun K0 hK0 => ?_))) | (with_reducible refine ⟨_, fun _ _ => rfl, hK1 _ (wpQuiet_step (fun K0 hK0 => ?_))⟩) | (rw [if_neg (by intro e; cases e)]; with_reducible refine hK1 _ (wpQuiet_step (fun K0 hK0 => ?_)))
              clear hK1 K1
              go_simp
              first | (with_reducible refine hK0 _ (wpQuiet_step (fun K1 hK1 => ?_))) | (with_reducible refine ⟨_, fun _ _ => rfl, hK0 _ (wpQuiet_step (fun K1 hK1 => ?_))⟩) | (rw [if_neg (by intro e; cases e)]; with_reducible refine hK0 _ (wpQuiet_step (fun K1 hK1 => ?_)))
              clear hK0 K0
              go_simp
              first | (with_reducible refine hK1 _ (wpQuiet_step (fun K0 hK0 => ?_))) | (with_reducible refine ⟨_, fun _ _ => rfl, hK1 _ (wpQuiet_step (fun K0 hK0 => ?_))⟩) | (rw [if_neg (by intro e; cases e)]; with_reducible refine hK1 _ (wpQuiet_step (fun K0 hK0 => ?_)))
              clear hK1 K1
              go_simp
              first | (with_reducible refine hK0 _ (wpQuiet_step (fun K1 hK1 => ?_))) | (with_reducible refine ⟨_, fun _ _ => rfl, hK0 _ (wpQuiet_step (fun K1 hK1 => ?_))⟩) | (rw [if_neg (by intro e; cases e)]; with_reducible refine hK0 _ (wpQuiet_step (fun K1 hK1 => ?_)))
              clear hK0 K0
              go_simp
              first | (with_reducible refine hK1 _ (wpQuiet_step (fun K0 hK0 => ?_))) | (with_reducible refine ⟨_, fun _ _ => rfl, hK1 _ (wpQuiet_step (fun K0 hK0 => ?_))⟩) | (rw [if_neg (by intro e; cases e)]; with_reducible refine hK1 _ (wpQuiet_step (fun K0 hK0 => ?_)))
              clear hK1 K1
              go_simp
              first | (with_reducible refine hK0 _ (wpQuiet_step (fun K1 hK1 => ?_))) | (with_reducible refine ⟨_, fun _ _ => rfl, hK0 _ (wpQuiet_step (fun K1 hK1 => ?_))⟩) | (rw [if_neg (by intro e; cases e)]; with_reducible refine hK0 _ (wpQuiet_step (fun K1 hK1 => ?_)))
              clear hK0 K0
              go_simp
              first | (with_reducible refine hK1 _ (wpQuiet_step (fun K0 hK0 => ?_))) | (with_reducible refine ⟨_, fun _ _ => rfl, hK1 _ (wpQuiet_step (fun K0 hK0 => ?_))⟩) | (rw [if_neg (by intro e; cases e)]; with_reducible refine hK1 _ (wpQuiet_step (fun K0 hK0 => ?_)))
              clear hK1 K1
              go_simp
              first | (with_reducible refine hK0 _ (wpQuiet_step (fun K1 hK1 => ?_))) | (with_reducible refine ⟨_, fun _ _ => rfl, hK0 _ (wpQuiet_step (fun K1 hK1 => ?_))⟩) | (rw [if_neg (by intro e; cases e)]; with_reducible refine hK0 _ (wpQuiet_step (fun K1 hK1 => ?_)))
              clear hK0 K0
              go_simp
              first | (with_reducible refine hK1 _ (wpQuiet_step (fun K0 hK0 => ?_))) | (with_reducible refine ⟨_, fun _ _ => rfl, hK1 _ (wpQuiet_step (fun K0 hK0 => ?_))⟩) | (rw [if_neg (by intro e; cases e)]; with_reducible refine hK1 _ (wpQuiet_step (fun K0 hK0 => ?_)))
              clear hK1 K1
              go_simp
              first | (with_reducible refine hK0 _ (wpQuiet_step (fun K1 hK1 => ?_))) | (with_reducible refine ⟨_, fun _ _ => rfl, hK0 _ (wpQuiet_step (fun K1 hK1 => ?_))⟩) | (rw [if_neg (by intro e; cases e)]; with_reducible refine hK0 _ (wpQuiet_step (fun K1 hK1 => ?_)))
              clear hK0 K0
              go_simp
              refine ⟨.int .i64 x.un, fun W hW => ?_, hK1 _ (wpQuiet_step (fun K0 hK0 => ?_))⟩
              · ((obtain ⟨u0, u1, u2, u3, u4, u5, u6, u7⟩ := HX.out W hW; simp [go_sem, u7]))
              clear hK1 K1
              go_simp
              first | (with_reducible refine hK0 _ (wpQuiet_step (fun K1 hK1 => ?_))) | (with_reducible refine ⟨_, fun _ _ => rfl, hK0 _ (wpQuiet_step (fun K1 hK1 => ?_))⟩) | (rw [if_neg (by intro e; cases e)]; with_reducible refine hK0 _ (wpQuiet_step (fun K1 hK1 => ?_)))
              clear hK0 K0
              go_simp
              first | (with_reducible refine hK1 _ (wpQuiet_step (fun K0 hK0 => ?_))) | (with_reducible refine ⟨_, fun _ _ => rfl, hK1 _ (wpQuiet_step (fun K0 hK0 => ?_))⟩) | (rw [if_neg (by intro e; cases e)]; with_reducible refine hK1 _ (wpQuiet_step (fun K0 hK0 => ?_)))
              clear hK1 K1
              go_simp
              first | (with_reducible refine hK0 _ (wpQuiet_step (fun K1 hK1 => ?_))) | (with_reducible refine ⟨_, fun _ _ => rfl, hK0 _ (wpQuiet_step (fun K1 hK1 => ?_))⟩) | (rw [if_neg (by intro e; cases e)]; with_reducible refine hK0 _ (wpQuiet_step (fun K1 hK1 => ?_)))
              clear hK0 K0
              go_simp
              first | (with_reducible refine hK1 _ (wpQuiet_step (fun K0 hK0 => ?_))) | (with_reducible refine ⟨_, fun _ _ => rfl, hK1 _ (wpQuiet_step (fun K0 hK0 => ?_))⟩) | (rw [if_neg (by intro e; cases e)]; with_reducible refine hK1 _ (wpQuiet_step (fun K0 hK0 => ?_)))
              clear hK1 K1
              go_simp
              refine ⟨.int .i64 y.un, fun W hW => ?_, hK0 _ (wpQuiet_step (fun K1 hK1 => ?_))⟩
              · ((obtain ⟨u0, u1, u2, u3, u4, u5, u6, u7⟩ := HY.out W hW; simp [go_sem, u7]))
              clear hK0 K0
              go_simp
              first | (with_reducible refine hK1 _ (wpQuiet_step (fun K0 hK0 => ?_))) | (with_reducible refine ⟨_, fun _ _ => rfl, hK1 _ (wpQuiet_step (fun K0 hK0 => ?_))⟩) | (rw [if_neg (by intro e; cases e)]; with_reducible refine hK1 _ (wpQuiet_step (fun K0 hK0 => ?_)))
              clear hK1 K1
              go_simp
              first | (with_reducible refine hK0 _ (wpQuiet_step (fun K1 hK1 => ?_))) | (with_reducible refine ⟨_, fun _ _ => rfl, hK0 _ (wpQuiet_step (fun K1 hK1 => ?_))⟩) | (rw [if_neg (by intro e; cases e)]; with_reducible refine hK0 _ (wpQuiet_step (fun K1 hK1 => ?_)))
              clear hK0 K0
              go_simp
              first | (with_reducible refine hK1 _ (wpQuiet_nil ?_)) | (with_reducible refine ⟨_, fun _ _ => rfl, hK1 _ (wpQuiet_nil ?_)⟩) | (rw [if_neg (by intro e; cases e)]; with_reducible refine hK1 _ (wpQuiet_nil ?_))
              clear hK1 K1
              intro w2 H2
              have HB2 := hide (HQ.out.trans (H2.mono HQ.out.size))
              clear HX H2 HQ HS
              go_wp2
              go_roundw
              case rel => exact ⟨k + 1, (k : Int), hlt, by go_num, rfl, hide (Or.inr ⟨k, x, rfl, SB.out hc⟩), HB2⟩
              case measure => simp [intOf]; omega
            · go_wp2_with fail
              refine wp_region_quiet (C := NB wr) (by kernel_rfl) (by kernel_rfl) (below_drew wr) (wpQuiet_step (fun K0 hK0 => ?_))
              go_simp
              first | (with_reducible refine hK0 _ (wpQuiet_step (fun K1 hK1 => ?_))) | (with_reducible refine ⟨_, fun _ _ => rfl, hK0 _ (wpQuiet_step (fun K1 hK1 => ?_))⟩) | (rw [if_neg (by intro e; cases e)]; with_reducible refine hK0 _ (wpQuiet_step (fun K1 hK1 => ?_)))
              clear hK0 K0
              go_simp
              first | (with_reducible refine hK1 _ (wpQuiet_step (fun K0 hK0 => ?_))) | (with_reducible refine ⟨_, fun _ _ => rfl, hK1 _ (wpQuiet_step (fun K0 hK0 => ?_))⟩) | (rw [if_neg (by intro e; cases e)]; with_reducible refine hK1 _ (wpQuiet_step (fun K0 hK0 => ?_)))
              clear hK1 K1
              go_simp
              first | (with_reducible refine hK0 _ (wpQuiet_step (fun K1 hK1 => ?_))) | (with_reducible refine ⟨_, fun _ _ => rfl, hK0 _ (wpQuiet_step (fun K1 hK1 => ?_))⟩) | (rw [if_neg (by intro e; cases e)]; with_reducible refine hK0 _ (wpQuiet_step (fun K1 hK1 => ?_)))
              clear hK0 K0
              go_simp
              first | (with_reducible refine hK1 _ (wpQuiet_step (fun K0 hK0 => ?_))) | (with_reducible refine ⟨_, fun _ _ => rfl, hK1 _ (wpQuiet_step (fun K0 hK0 => ?_))⟩) | (rw [if_neg (by intro e; cases e)]; with_reducible refine hK1 _ (wpQuiet_step (fun K0 hK0 => ?_)))
              clear hK1 K1
              go_simp
              refine ⟨.int .i64 x.un, fun W hW => ?_, hK0 _ (wpQuiet_step (fun K1 hK1 => ?_))⟩
              · ((obtain ⟨u0, u1, u2, u3, u4, u5, u6, u7⟩ := HX.out W hW; simp [go_sem, u7]))
              clear hK0 K0
              go_simp
              first | (with_reducible refine hK1 _ (wpQuiet_step (fun K0 hK0 => ?_))) | (with_reducible refine ⟨_, fun _ _ => rfl, hK1 _ (wpQuiet_step (fun K0 hK0 => ?_))⟩) | (rw [if_neg (by intro e; cases e)]; with_reducible refine hK1 _ (wpQuiet_step (fun K0 hK0 => ?_)))
              clear hK1 K1
              go_simp
              first | (with_reducible refine hK0 _ (wpQuiet_step (fun K1 hK1 => ?_))) | (with_reducible refine ⟨_, fun _ _ => rfl, hK0 _ (wpQuiet_step (fun K1 hK1 => ?_))⟩) | (rw [if_neg (by intro e; cases e)]; with_reducible refine hK0 _ (wpQuiet_step (fun K1 hK1 => ?_)))
              clear hK0 K0
              go_simp
              first | (with_reducible refine hK1 _ (wpQuiet_step (fun K0 hK0 => ?_))) | (with_reducible refine ⟨_, fun _ _ => rfl, hK1 _ (wpQuiet_step (fun K0 hK0 => ?_))⟩) | (rw [if_neg (by intro e; cases e)]; with_reducible refine hK1 _ (wpQuiet_step (fun K0 hK0 => ?_)))
              clear hK1 K1
              go_simp
              first | (with_reducible refine hK0 _ (wpQuiet_step (fun K1 hK1 => ?_))) | (with_reducible refine ⟨_, fun _ _ => rfl, hK0 _ (wpQuiet_step (fun K1 hK1 => ?_))⟩) | (rw [if_neg (by intro e; cases e)]; with_reducible refine hK0 _ (wpQuiet_step (fun K1 hK1 => ?_)))
              clear hK0 K0
              go_simp
              first | (with_reducible refine hK1 _ (wpQuiet_step (fun K0 hK0 => ?_))) | (with_reducible refine ⟨_, fun _ _ => rfl, hK1 _ (wpQuiet_step (fun K0 hK0 => ?_))⟩) | (rw [if_neg (by intro e; cases e)]; with_reducible refine hK1 _ (wpQuiet_step (fun K0 hK0 => ?_)))
              clear hK1 K1
              go_simp
              first | (with_reducible refine hK0 _ (wpQuiet_step (fun K1 hK1 => ?_))) | (with_reducible refine ⟨_, fun _ _ => rfl, hK0 _ (wpQuiet_step (fun K1 hK1 => ?_))⟩) | (rw [if_neg (by intro e; cases e)]; with_reducible refine hK0 _ (wpQuiet_step (fun K1 hK1 => ?_)))
              clear hK0 K0
              go_simp
              first | (with_reducible refine hK1 _ (wpQuiet_step (fun K0 hK0 => ?_))) | (with_reducible refine ⟨_, fun _ _ => rfl, hK1 _ (wpQuiet_step (fun K0 hK0 => ?_))⟩) | (rw [if_neg (by intro e; cases e)]; with_reducible refine hK1 _ (wpQuiet_step (fun K0 hK0 => ?_)))
              clear hK1 K1
              go_simp
              first | (with_reducible refine hK0 _ (wpQuiet_step (fun K1 hK1 => ?_))) | (with_reducible refine ⟨_, fun _ _ => rfl, hK0 _ (wpQuiet_step (fun K1 hK1 => ?_))⟩) | (rw [if_neg (by intro e; cases e)]; with_reducible refine hK0 _ (wpQuiet_step (fun K1 hK1 => ?_)))
              clear hK0 K0
              go_simp
              first | (with_reducible refine hK1 _ (wpQuiet_step (fun K0 hK0 => ?_))) | (with_reducible refine ⟨_, fun _ _ => rfl, hK1 _ (wpQuiet_step (fun K0 hK0 => ?_))⟩) | (rw [if_neg (by intro e; cases e)]; with_reducible refine hK1 _ (wpQuiet_step (fun K0 hK0 => ?_)))
              clear hK1 K1
              go_simp
              first | (with_reducible refine hK0 _ (wpQuiet_step (fun K1 hK1 => ?_))) | (with_reducible refine ⟨_, fun _ _ => rfl, hK0 _ (wpQuiet_step (fun K1 hK1 => ?_))⟩) | (rw [if_neg (by intro e; cases e)]; with_reducible refine hK0 _ (wpQuiet_step (fun K1 hK1 => ?_)))
              clear hK0 K0
              go_simp
              refine ⟨.int .i64 x.un, fun W hW => ?_, hK1 _ (wpQuiet_step (fun K0 hK0 => ?_))⟩
              · ((obtain ⟨u0, u1, u2, u3, u4, u5, u6, u7⟩ := HX.out W hW; simp [go_sem, u7]))
              clear hK1 K1
              go_simp
              first | (with_reducible refine hK0 _ (wpQuiet_step (fun K1 hK1 => ?_))) | (with_reducible refine ⟨_, fun _ _ => rfl, hK0 _ (wpQuiet_step (fun K1 hK1 => ?_))⟩) | (rw [if_neg (by intro e; cases e)]; with_reducible refine hK0 _ (wpQuiet_step (fun K1 hK1 => ?_)))
              clear hK0 K0
              go_simp
              first | (with_reducible refine hK1 _ (wpQuiet_step (fun K0 hK0 => ?_))) | (with_reducible refine ⟨_, fun _ _ => rfl, hK1 _ (wpQuiet_step (fun K0 hK0 => ?_))⟩) | (rw [if_neg (by intro e; cases e)]; with_reducible refine hK1 _ (wpQuiet_step (fun K0 hK0 => ?_)))
              clear hK1 K1
              go_simp
              first | (with_reducible refine hK0 _ (wpQuiet_step (fun K1 hK1 => ?_))) | (with_reducible refine ⟨_, fun _ _ => rfl, hK0 _ (wpQuiet_step (fun K1 hK1 => ?_))⟩) | (rw [if_neg (by intro e; cases e)]; with_reducible refine hK0 _ (wpQuiet_step (fun K1 hK1 => ?_)))
              clear hK0 K0
              go_simp
              first | (with_reducible refine hK1 _ (wpQuiet_step (fun K0 hK0 => ?_))) | (with_reducible refine ⟨_, fun _ _ => rfl, hK1 _ (wpQuiet_step (fun K0 hK0 => ?_))⟩) | (rw [if_neg (by intro e; cases e)]; with_reducible refine hK1 _ (wpQuiet_step (fun K0 hK0 => ?_)))
              clear hK1 K1
              go_simp
              refine ⟨.int .i64 y.un, fun W hW => ?_, hK0 _ (wpQuiet_step (fun K1 hK1 => ?_))⟩
              · ((obtain ⟨u0, u1, u2, u3, u4, u5, u6, u7⟩ := HY.out W hW; simp [go_sem, u7]))
              clear hK0 K0
              go_simp
              first | (with_reducible refine hK1 _ (wpQuiet_step (fun K0 hK0 => ?_))) | (with_reducible refine ⟨_, fun _ _ => rfl, hK1 _ (wpQuiet_step (fun K0 hK0 => ?_))⟩) | (rw [if_neg (by intro e; cases e)]; with_reducible refine hK1 _ (wpQuiet_step (fun K0 hK0 => ?_)))
              clear hK1 K1
              go_simp
              first | (with_reducible refine hK0 _ (wpQuiet_step (fun K1 hK1 => ?_))) | (with_reducible refine ⟨_, fun _ _ => rfl, hK0 _ (wpQuiet_step (fun K1 hK1 => ?_))⟩) | (rw [if_neg (by intro e; cases e)]; with_reducible refine hK0 _ (wpQuiet_step (fun K1 hK1 => ?_)))
              clear hK0 K0
              go_simp
              first | (with_reducible refine hK1 _ (wpQuiet_nil ?_)) | (with_reducible refine ⟨_, fun _ _ => rfl, hK1 _ (wpQuiet_nil ?_)⟩) | (rw [if_neg (by intro e; cases e)]; with_reducible refine hK1 _ (wpQuiet_nil ?_))
              clear hK1 K1
              intro w2 H2
              have HB2 := hide (HQ.out.trans (H2.mono HQ.out.size))
              clear HX H2 HQ HS
              go_wp2
              go_roundw
              case rel => exact ⟨k + 1, (j : Int), hlt, by go_num, rfl, hide (Or.inr ⟨j, y, rfl, SW.out hc⟩), HB2⟩
              case measure => simp [intOf]; omega
        · have hdb : decide (x.un ≤ now) = false := decide_eq_false hd
          have HN : Hid ((at' = -1 ∧ SelNo R now (k + 1)) ∨ ∃ (j : Nat) (y : Ls), at' = (j : Int) ∧ SelAt R now (k + 1) j y) := hide (by
            rcases HS.out with ⟨e, hno⟩ | ⟨j, y, e, hsel⟩
            · exact Or.inl ⟨e, selNo_no hno HXX.out hd⟩
            · exact Or.inr ⟨j, y, e, selAt_no hsel HXX.out hd⟩)
          clear HRK
          go_wp2_with fail
          refine wp_region_quiet (C := NB wr) (by kernel_rfl) (by kernel_rfl) (below_drew wr) (wpQuiet_step (fun K0 hK0 => ?_))
          go_simp
          first | (with_reducible refine hK0 _ (wpQuiet_step (fun K1 hK1 => ?_))) | (with_reducible refine ⟨_, fun _ _ => rfl, hK0 _ (wpQuiet_step (fun K1 hK1 => ?_))⟩) | (rw [if_neg (by intro e; cases e)]; with_reducible refine hK0 _ (wpQuiet_step (fun K1 hK1 => ?_)))
          clear hK0 K0
          go_simp
          first | (with_reducible refine hK1 _ (wpQuiet_step (fun K0 hK0 => ?_))) | (with_reducible refine ⟨_, fun _ _ => rfl, hK1 _ (wpQuiet_step (fun K0 hK0 => ?_))⟩) | (rw [if_neg (by intro e; cases e)]; with_reducible refine hK1 _ (wpQuiet_step (fun K0 hK0 => ?_)))
          clear hK1 K1
          go_simp
          first | (with_reducible refine hK0 _ (wpQuiet_step (fun K1 hK1 => ?_))) | (with_reducible refine ⟨_, fun _ _ => rfl, hK0 _ (wpQuiet_step (fun K1 hK1 => ?_))⟩) | (rw [if_neg (by intro e; cases e)]; with_reducible refine hK0 _ (wpQuiet_step (fun K1 hK1 => ?_)))
          clear hK0 K0
          go_simp
          first | (with_reducible refine hK1 _ (wpQuiet_step (fun K0 hK0 => ?_))) | (with_reducible refine ⟨_, fun _ _ => rfl, hK1 _ (wpQuiet_step (fun K0 hK0 => ?_))⟩) | (rw [if_neg (by intro e; cases e)]; with_reducible refine hK1 _ (wpQuiet_step (fun K0 hK0 => ?_)))
          clear hK1 K1
          go_simp
          refine ⟨.int .i64 x.un, fun W hW => ?_, hK0 _ (wpQuiet_step (fun K1 hK1 => ?_))⟩
          · ((obtain ⟨u0, u1, u2, u3, u4, u5, u6, u7⟩ := HX.out W hW; simp [go_sem, u7]))
          clear hK0 K0
          go_simp
          first | (with_reducible refine hK1 _ (wpQuiet_step (fun K0 hK0 => ?_))) | (with_reducible refine ⟨_, fun _ _ => rfl, hK1 _ (wpQuiet_step (fun K0 hK0 => ?_))⟩) | (rw [if_neg (by intro e; cases e)]; with_reducible refine hK1 _ (wpQuiet_step (fun K0 hK0 => ?_)))
          clear hK1 K1
          go_simp
          first | (with_reducible refine hK0 _ (wpQuiet_step (fun K1 hK1 => ?_))) | (with_reducible refine ⟨_, fun _ _ => rfl, hK0 _ (wpQuiet_step (fun K1 hK1 => ?_))⟩) | (rw [if_neg (by intro e; cases e)]; with_reducible refine hK0 _ (wpQuiet_step (fun K1 hK1 => ?_)))
          clear hK0 K0
          go_simp
          first | (with_reducible refine hK1 _ (wpQuiet_step (fun K0 hK0 => ?_))) | (with_reducible refine ⟨_, fun _ _ => rfl, hK1 _ (wpQuiet_step (fun K0 hK0 => ?_))⟩) | (rw [if_neg (by intro e; cases e)]; with_reducible refine hK1 _ (wpQuiet_step (fun K0 hK0 => ?_)))
          clear hK1 K1
          go_simp
          first | (with_reducible refine hK0 _ (wpQuiet_step (fun K1 hK1 => ?_))) | (with_reducible refine ⟨_, fun _ _ => rfl, hK0 _ (wpQuiet_step (fun K1 hK1 => ?_))⟩) | (rw [if_neg (by intro e; cases e)]; with_reducible refine hK0 _ (wpQuiet_step (fun K1 hK1 => ?_)))
          clear hK0 K0
          go_simp
          first | (with_reducible refine hK1 _ (wpQuiet_step (fun K0 hK0 => ?_))) | (with_reducible refine ⟨_, fun _ _ => rfl, hK1 _ (wpQuiet_step (fun K0 hK0 => ?_))⟩) | (rw [if_neg (by intro e; cases e)]; with_reducible refine hK1 _ (wpQuiet_step (fun K0 hK0 => ?_)))
          clear hK1 K1
          go_simp
          first | (with_reducible refine hK0 _ (wpQuiet_step (fun K1 hK1 => ?_))) | (with_reducible refine ⟨_, fun _ _ => rfl, hK0 _ (wpQuiet_step (fun K1 hK1 => ?_))⟩) | (rw [if_neg (by intro e; cases e)]; with_reducible refine hK0 _ (wpQuiet_step (fun K1 hK1 => ?_)))
          clear hK0 K0
          go_simp
          first | (with_reducible refine hK1 _ (wpQuiet_step (fun K0 hK0 => ?_))) | (with_reducible refine ⟨_, fun _ _ => rfl, hK1 _ (wpQuiet_step (fun K0 hK0 => ?_))⟩) | (rw [if_neg (by intro e; cases e)]; with_reducible refine hK1 _ (wpQuiet_step (fun K0 hK0 => ?_)))
          clear hK1 K1
          go_simp
          first | (with_reducible refine hK0 _ (wpQuiet_step (fun K1 hK1 => ?_))) | (with_reducible refine ⟨_, fun _ _ => rfl, hK0 _ (wpQuiet_step (fun K1 hK1 => ?_))⟩) | (rw [if_neg (by intro e; cases e)]; with_reducible refine hK0 _ (wpQuiet_step (fun K1 hK1 => ?_)))
          clear hK0 K0
          go_simp
          first | (with_reducible refine hK1 _ (wpQuiet_step (fun K0 hK0 => ?_))) | (with_reducible refine ⟨_, fun _ _ => rfl, hK1 _ (wpQuiet_step (fun K0 hK0 => ?_))⟩) | (rw [if_neg (by intro e; cases e)]; with_reducible refine hK1 _ (wpQuiet_step (fun K0 hK0 => ?_)))
          clear hK1 K1
          go_simp
          first | (with_reducible refine hK0 _ (wpQuiet_step (fun K1 hK1 => ?_))) | (with_reducible refine ⟨_, fun _ _ => rfl, hK0 _ (wpQuiet_step (fun K1 hK1 => ?_))⟩) | (rw [if_neg (by intro e; cases e)]; with_reducible refine hK0 _ (wpQuiet_step (fun K1 hK1 => ?_)))
          clear hK0 K0
          go_simp
          first | (with_reducible refine hK1 _ (wpQuiet_step (fun K0 hK0 => ?_))) | (with_reducible refine ⟨_, fun _ _ => rfl, hK1 _ (wpQuiet_step (fun K0 hK0 => ?_))⟩) | (rw [if_neg (by intro e; cases e)]; with_reducible refine hK1 _ (wpQuiet_step (fun K0 hK0 => ?_)))
          clear hK1 K1
          go_simp
          first | (with_reducible refine hK0 _ (wpQuiet_step (fun K1 hK1 => ?_))) | (with_reducible refine ⟨_, fun _ _ => rfl, hK0 _ (wpQuiet_step (fun K1 hK1 => ?_))⟩) | (rw [if_neg (by intro e; cases e)]; with_reducible refine hK0 _ (wpQuiet_step (fun K1 hK1 => ?_)))
          clear hK0 K0
          go_simp
          first | (with_reducible refine hK1 _ (wpQuiet_step (fun K0 hK0 => ?_))) | (with_reducible refine ⟨_, fun _ _ => rfl, hK1 _ (wpQuiet_step (fun K0 hK0 => ?_))⟩) | (rw [if_neg (by intro e; cases e)]; with_reducible refine hK1 _ (wpQuiet_step (fun K0 hK0 => ?_)))
          clear hK1 K1
          go_simp
          first | (with_reducible refine hK0 _ (wpQuiet_step (fun K1 hK1 => ?_))) | (with_reducible refine ⟨_, fun _ _ => rfl, hK0 _ (wpQuiet_step (fun K1 hK1 => ?_))⟩) | (rw [if_neg (by intro e; cases e)]; with_reducible refine hK0 _ (wpQuiet_step (fun K1 hK1 => ?_)))
          clear hK0 K0
          go_simp
          first | (with_reducible refine hK1 _ (wpQuiet_step (fun K0 hK0 => ?_))) | (with_reducible refine ⟨_, fun _ _ => rfl, hK1 _ (wpQuiet_step (fun K0 hK0 => ?_))⟩) | (rw [if_neg (by intro e; cases e)]; with_reducible refine hK1 _ (wpQuiet_step (fun K0 hK0 => ?_)))
          clear hK1 K1
          go_simp
          first | (with_reducible refine hK0 _ (wpQuiet_step (fun K1 hK1 => ?_))) | (with_reducible refine ⟨_, fun _ _ => rfl, hK0 _ (wpQuiet_step (fun K1 hK1 => ?_))⟩) | (rw [if_neg (by intro e; cases e)]; with_reducible refine hK0 _ (wpQuiet_step (fun K1 hK1 => ?_)))
          clear hK0 K0
          go_simp
          first | (with_reducible refine hK1 _ (wpQuiet_step (fun K0 hK0 => ?_))) | (with_reducible refine ⟨_, fun _ _ => rfl, hK1 _ (wpQuiet_step (fun K0 hK0 => ?_))⟩) | (rw [if_neg (by intro e; cases e)]; with_reducible refine hK1 _ (wpQuiet_step (fun K0 hK0 => ?_)))
          clear hK1 K1
          go_simp
          first | (with_reducible refine hK0 _ (wpQuiet_step (fun K1 hK1 => ?_))) | (with_reducible refine ⟨_, fun _ _ => rfl, hK0 _ (wpQuiet_step (fun K1 hK1 => ?_))⟩) | (rw [if_neg (by intro e; cases e)]; with_reducible refine hK0 _ (wpQuiet_step (fun K1 hK1 => ?_)))
          clear hK0 K0
          go_simp
          first | (with_reducible refine hK1 _ (wpQuiet_nil ?_)) | (with_reducible refine ⟨_, fun _ _ => rfl, hK1 _ (wpQuiet_nil ?_)⟩) | (rw [if_neg (by intro e; cases e)]; with_reducible refine hK1 _ (wpQuiet_nil ?_))
          clear hK1 K1
          intro w2 H2
          have HB2 := hide (HQ.out.trans (H2.mono HQ.out.size))
          clear HX H2 HQ HS
          go_wp2
          go_roundw
          case rel => exact ⟨k + 1, at', hlt, by go_num, rfl, HN, HB2⟩
          case measure => simp [intOf]; omega
      · have hlt2 : ¬ (k : Int) < (R.length : Int) := by omega
        have hke : k = R.length := by omega
        have HBQ := hide (HB.out.trans (HQ.out.mono HB.out.size))
        have HOQ := hide (ownL_below HO.out HQ.out)
        have HRQ := hide (HR.out.step HQ.out)
        rcases HS.out with ⟨rfl, hno⟩ | ⟨j, y, rfl, hsel⟩
        · rw [hke] at hno
          have END : Hid (RDuePost w L now (.returned ov) wr) := hide ⟨F, HD.out.stop hno, HD.out.due, ov, rfl, (ownL_res HOQ.out).older B1.out.size, chain B1.out HBQ.out, ownL_nil HOQ.out⟩
          clear HS HQ hno HBQ HOQ HRQ HB HO HR hke
          go_wp2
          go_ret
          exact END.out
        · rw [hke] at hsel
          have hj0 : (0 : Int) ≤ (j : Int) := by omega
          have hjn : ¬ (j : Int) < 0 := by omega
          have hj1 : (j : Int) < (R.length : Int) := by have := hsel.1; omega
          have DN := hide (HD.out.next TL.out hsel)
          obtain ⟨b, o, rfl, y0, y1, y2, y3, y4, y5, y6, y7⟩ := HRQ.out j y hsel.2.1
          have hne : R ≠ [] := List.ne_nil_of_mem (List.mem_of_getElem? hsel.2.1)
          have HNB := hide (HNE.out b o rfl hne)
          have HYJ := hide hsel.2.1
          have HBS := HBQ.out.size
          have REM := hide (show (restL R y).length < R.length by
            have := (rest_one (TL.out.good.sub HD.out.sub) (List.mem_of_getElem? hsel.2.1)).length_eq
            simp at this; omega)
          clear HS HQ hsel HB HO HR hke HNE
          go_wp2_with (at_builtin; refine wpList_pushL2 rfl (.tmp 46) (.tmp 51) rfl w1.heap.size ov F rfl y wr rfl HOQ.out rfl (by omega) HBS ?_; intro v5 w5 O5 Z5 F5; have HR5 := hide (HRQ.out.fr2 F5 (fun b2 o2 e _ hk => by cases e; exact HNB.out hk.symm)); have HO5 := hide O5; have HB5 := hide (HBQ.out.trans Z5); have WO := hide (without_any (c := cr) y w5 HR5.out (by omega)); obtain ⟨b3, o3, e3, a0, a1, a2, a3, a4, a5, a6, a7⟩ := HR5.out j y HYJ.out; cases e3; clear y0 y1 y2 y3 y4 y5 y6 y7 O5 Z5 F5)
          refine WO.out.mono ?_
          rintro e w6 ⟨v6, rfl, hr6, hb6, _⟩
          obtain ⟨p6, c6, rfl, hl6, hn6⟩ := hr6.lst
          have HR6 := hide hl6
          have HO6 := hide (ownL_below HO5.out hb6)
          have HB6 := hide (HB5.out.trans (hb6.mono HB5.out.size))
          have NE6 := hide (show ∀ b2 o2, p6 = some ⟨b2, o2, none⟩ → restL R y ≠ [] → v5.ownBlock ≠ some b2 from fun b2 o2 e hne h => by
            have h1 := (hn6 b2 o2 e hne).1
            have h2 := (World.ownsRow.lt HO5.out b2 h).2
            omega)
          clear hr6 hl6 hn6 hb6 a0 a1 a2 a3 a4 a5 a6 a7 WO
          go_wp2
          go_roundw
          case rel => exact ⟨restL R y, F ++ [y], p6, c6, v5, rfl, rfl, DN, HR6, HO6, NE6, HB6⟩
          case measure => simp [lenV]; exact REM.out
end Go.Proofs.YtpldkgollhbolaaGreat
