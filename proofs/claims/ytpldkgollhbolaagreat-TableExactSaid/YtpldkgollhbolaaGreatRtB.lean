/-
  The document's own without and with of layer 9. Conditions: at most 3000 leases in a list; the words are words of 64 bits, a text is no longer than an int (every value of the types is such).
-/
import Derived.Test.YtpldkgollhbolaaGreatRtA
import Derived.Test.YtpldkgollhbolaaGreatRef8
namespace Go.Proofs.YtpldkgollhbolaaGreat
open Go.RowKit Go.Joins Go.Maps

variable {w w' V W W' : World} {L : List Ls} {v : Value}
/-- new memory alone -/
def NB (V : World) (W : World) : Prop := Below V.heap.size V W
theorem NB.step (h : NB V W) (hb : Below W.heap.size W W') : NB V W' := chain h hb
theorem rest_snoc {x y : Ls} {k : Nat} (hy : L[k]? = some y) : restL (L.take (k + 1)) x = if keyB y x = true then restL (L.take k) x else restL (L.take k) x ++ [y] := by
  unfold restL
  rw [List.take_add_one, hy, List.filter_append]
  simp only [Option.toList_some, List.filter_cons, List.filter_nil]
  cases keyB y x <;> simp
theorem rest_len (L : List Ls) (k : Nat) (x : Ls) : (restL (L.take k) x).length ≤ k := by
  unfold restL
  exact Nat.le_trans (List.length_filter_le _ _) (by rw [List.length_take]; omega)
set_option maxRecDepth 100000 in
set_option maxHeartbeats 4000000 in
theorem without_any (x : Ls) {p : Option Go.Addr} {c : Nat} (w : World) (hl : LstL p L w) (hn : L.length ≤ 3000) :
    Calls Tryz.prog 52 #[.slice p L.length c, Lv x] w (LsPost2 w (restL L x)) := by
  have HL := hide hl
  have HX := hide (atL_new w x 30)
  have HB0 := hide (below_alloc w (.cells (leaseC x) 30))
  have SZ : (w.alloc (.cells (leaseC x) 30)).heap.size = w.heap.size + 1 := by simp
  clear hl
  go_enter Tryz.func52, Tryz.ntmps52
  go_upto_region 1 with fail
  generalize w.alloc (.cells (leaseC x) 30) = V at *
  have OE := hide (ownL_empty V)
  have HB1 := hide (below_alloc V (.cells #[] 30))
  clear SZ
  go_wp2_with fail
  go_loopw [5, 6] (fun out ii wr => ∃ (k : Nat) (ov : Value), k ≤ L.length ∧ ov = out ∧ ii = .int .i64 (k : Nat) ∧ Hid (OwnL wr V.heap.size ov (restL (L.take k) x)) ∧ Hid (Below V.heap.size V wr)) (fun _ ii => fun _ => L.length - (intOf ii).toNat)
  case atStart => exact ⟨0, _, Nat.zero_le _, rfl, rfl, OE, HB1⟩
  case round =>
    clear OE HB1
    obtain ⟨k, ov, hk, rfl, rfl, HO, HB⟩ := hrel
    have hk0 : (0 : Int) ≤ (k : Int) := by omega
    by_cases hlt : k < L.length
    · obtain ⟨y, hy⟩ : ∃ y, L[k]? = some y := ⟨_, List.getElem?_eq_getElem hlt⟩
      have hlt2 : (k : Int) < (L.length : Int) := by omega
      have HS := hide (rest_snoc (x := x) hy)
      have HN := hide (rest_len L k x)
      obtain ⟨b, o, rfl, hat⟩ := HL.out k y hy
      have HY := hide (fun W (H : NB wr W) => ((hat.st HB0.out).st HB.out).st H)
      have XW := hide (fun W (H : NB wr W) => (HX.out.st HB.out).st H)
      have RS := hide (fun W => rsame_any y x W)
      clear hat hy
      generalize restL (L.take k) x = F at *
      cases hkey : keyB y x with
      | true =>
        rw [hkey] at RS HS
        have HS2 := hide (show restL (L.take (k + 1)) x = F from by rw [HS.out]; rfl)
        clear hkey HS
        go_wp2_with fail
        refine wp_region_quiet (C := NB wr) (by kernel_rfl) (by kernel_rfl) (below_drew wr) (wpQuiet_step (fun K0 hK0 => ?_))
        go_simp
        first | (with_reducible refine hK0 _ (wpQuiet_step (fun K1 hK1 => ?_))) | (with_reducible refine ⟨_, fun _ _ => rfl, hK0 _ (wpQuiet_step (fun K1 hK1 => ?_))⟩) | (rw [if_neg (by intro e; cases e)]; with_reducible refine hK0 _ (wpQuiet_step (fun K1 hK1 => ?_)))
        clear hK0 K0
        go_simp
        first | (with_reducible refine hK1 _ (wpQuiet_step (fun K0 hK0 => ?_))) | (with_reducible refine ⟨_, fun _ _ => rfl, hK1 _ (wpQuiet_step (fun K0 hK0 => ?_))⟩) | (rw [if_neg (by intro e; cases e)]; with_reducible refine hK1 _ (wpQuiet_step (fun K0 hK0 => ?_)))
        clear hK1 K1
        go_simp
        first | (with_reducible refine hK0 _ (wpQuiet_step (fun K1 hK1 => ?_))) | (with_reducible refine ⟨_, fun _ _ => rfl, hK0 _ (wpQuiet_step (fun K1 hK1 => ?_))⟩) | (rw [if_neg (by intro e; cases e)]; with_reducible refine hK0 _ (wpQuiet_step (fun K1 hK1 => ?_)))
        clear hK0 K0
        go_simp
        refine ⟨Lv y, fun W hW => ?_, hK1 _ (wpQuiet_step (fun K0 hK0 => ?_))⟩
        · ((obtain ⟨u0, u1, u2, u3, u4, u5, u6, u7⟩ := HY.out W hW; simp [go_sem, u0, u1, u2, u3, u4, u5, u6, u7]))
        clear hK1 K1
        go_simp
        refine ⟨Lv x, fun W hW => ?_, hK0 _ (wpQuiet_step (fun K1 hK1 => ?_))⟩
        · ((obtain ⟨u0, u1, u2, u3, u4, u5, u6, u7⟩ := XW.out W hW; simp [go_sem, u0, u1, u2, u3, u4, u5, u6, u7]))
        clear hK0 K0
        go_simp
        refine ⟨.bool true, fun W hW => ?_, hK1 _ (wpQuiet_step (fun K0 hK0 => ?_))⟩
        · exact (RS.out W).mono fun e w2 ⟨he, hb⟩ => ⟨he, NB.step hW hb⟩
        clear hK1 K1
        go_simp
        first | (with_reducible refine hK0 _ (wpQuiet_nil ?_)) | (with_reducible refine ⟨_, fun _ _ => rfl, hK0 _ (wpQuiet_nil ?_)⟩) | (rw [if_neg (by intro e; cases e)]; with_reducible refine hK0 _ (wpQuiet_nil ?_))
        clear hK0 K0
        intro w2 H2
        have HB2 := hide (HB.out.trans (H2.mono HB.out.size))
        have HO2 := hide (ownL_below HO.out H2)
        clear HO HB HY XW RS H2
        go_wp2
        go_roundw
        case rel => exact ⟨k + 1, ov, hlt, rfl, by go_num, by rw [HS2.out]; exact HO2, HB2⟩
        case measure => simp [intOf]; omega
      | false =>
        rw [hkey] at RS HS
        have HS2 := hide (show restL (L.take (k + 1)) x = F ++ [y] from by rw [HS.out]; rfl)
        clear hkey HS
        go_wp2_with fail
        refine wp_region_quiet (C := NB wr) (by kernel_rfl) (by kernel_rfl) (below_drew wr) (wpQuiet_step (fun K0 hK0 => ?_))
        go_simp
        first | (with_reducible refine hK0 _ (wpQuiet_step (fun K1 hK1 => ?_))) | (with_reducible refine ⟨_, fun _ _ => rfl, hK0 _ (wpQuiet_step (fun K1 hK1 => ?_))⟩) | (rw [if_neg (by intro e; cases e)]; with_reducible refine hK0 _ (wpQuiet_step (fun K1 hK1 => ?_)))
        clear hK0 K0
        go_simp
        first | (with_reducible refine hK1 _ (wpQuiet_step (fun K0 hK0 => ?_))) | (with_reducible refine ⟨_, fun _ _ => rfl, hK1 _ (wpQuiet_step (fun K0 hK0 => ?_))⟩) | (rw [if_neg (by intro e; cases e)]; with_reducible refine hK1 _ (wpQuiet_step (fun K0 hK0 => ?_)))
        clear hK1 K1
        go_simp
        first | (with_reducible refine hK0 _ (wpQuiet_step (fun K1 hK1 => ?_))) | (with_reducible refine ⟨_, fun _ _ => rfl, hK0 _ (wpQuiet_step (fun K1 hK1 => ?_))⟩) | (rw [if_neg (by intro e; cases e)]; with_reducible refine hK0 _ (wpQuiet_step (fun K1 hK1 => ?_)))
        clear hK0 K0
        go_simp
        refine ⟨Lv y, fun W hW => ?_, hK1 _ (wpQuiet_step (fun K0 hK0 => ?_))⟩
        · ((obtain ⟨u0, u1, u2, u3, u4, u5, u6, u7⟩ := HY.out W hW; simp [go_sem, u0, u1, u2, u3, u4, u5, u6, u7]))
        clear hK1 K1
        go_simp
        refine ⟨Lv x, fun W hW => ?_, hK0 _ (wpQuiet_step (fun K1 hK1 => ?_))⟩
        · ((obtain ⟨u0, u1, u2, u3, u4, u5, u6, u7⟩ := XW.out W hW; simp [go_sem, u0, u1, u2, u3, u4, u5, u6, u7]))
        clear hK0 K0
        go_simp
        refine ⟨.bool false, fun W hW => ?_, hK1 _ (wpQuiet_step (fun K0 hK0 => ?_))⟩
        · exact (RS.out W).mono fun e w2 ⟨he, hb⟩ => ⟨he, NB.step hW hb⟩
        clear hK1 K1
        go_simp
        first | (with_reducible refine hK0 _ (wpQuiet_nil ?_)) | (with_reducible refine ⟨_, fun _ _ => rfl, hK0 _ (wpQuiet_nil ?_)⟩) | (rw [if_neg (by intro e; cases e)]; with_reducible refine hK0 _ (wpQuiet_nil ?_))
        clear hK0 K0
        intro w2 H2
        have HB2 := hide (HB.out.trans (H2.mono HB.out.size))
        have HO2 := hide (ownL_below HO.out H2)
        obtain ⟨u0, u1, u2, u3, u4, u5, u6, u7⟩ := HY.out w2 H2
        have HBS := HB2.out.size
        clear HO HB HY XW RS H2
        go_wp2_with (at_builtin; refine wpList_pushL rfl (.tmp 21) (.tmp 26) rfl V.heap.size ov F rfl y w2 rfl HO2.out rfl (by have := HN.out; omega) HBS ?_; intro v5 w5 O5 Z5)
        go_roundw
        case rel => exact ⟨k + 1, v5, hlt, rfl, by go_num, by rw [HS2.out]; exact hide O5, hide (HB2.out.trans Z5)⟩
        case measure => simp [intOf]; omega
    · have hlt2 : ¬ (k : Int) < (L.length : Int) := by omega
      have HF := hide (show OwnL wr V.heap.size ov (restL L x) by have := HO.out; rwa [show k = L.length by omega, List.take_length] at this)
      have END : Hid (LsPost2 w (restL L x) (.returned ov) wr) := hide ⟨ov, rfl, (ownL_res HF.out).older HB0.out.size, chain HB0.out HB.out, ownL_nil HF.out⟩
      clear HF HO HB
      go_wp2
      go_ret
      exact END.out
/-- what with has put so far, and what is left -/
def withL (L : List Ls) (x : Ls) (k : Nat) (b : Bool) : List Ls := if b = true then putL x (L.take k) else L.take k
theorem put_take {x : Ls} : ∀ (L : List Ls) (k : Nat), (∃ y ∈ L.take k, cmpL x y < 0) → putL x L = putL x (L.take k) ++ L.drop k
  | [], k, ⟨y, hy, _⟩ => by simp at hy
  | z :: r, 0, ⟨y, hy, _⟩ => by simp at hy
  | z :: r, k + 1, ⟨y, hy, h⟩ => by
    rw [List.take_succ_cons, List.drop_succ_cons]
    unfold putL
    by_cases hz : cmpL x z < 0
    · rw [if_pos hz, if_pos hz]; simp
    · rw [if_neg hz, if_neg hz]
      rw [List.take_succ_cons] at hy
      have hy2 : y ∈ r.take k := by
        rcases List.mem_cons.1 hy with rfl | hy
        · exact absurd h hz
        · exact hy
      rw [put_take r k ⟨y, hy2, h⟩]; rfl
theorem put_none {x : Ls} : ∀ (L : List Ls), (∀ y ∈ L, ¬ cmpL x y < 0) → putL x L = L ++ [x]
  | [], _ => rfl
  | z :: r, h => by
    unfold putL
    rw [if_neg (h z List.mem_cons_self), put_none r (fun y hy => h y (List.mem_cons_of_mem _ hy))]; rfl
theorem put_snoc {x : Ls} : ∀ (A : List Ls) (y : Ls), (∃ z ∈ A, cmpL x z < 0) → putL x (A ++ [y]) = putL x A ++ [y]
  | [], _, ⟨z, hz, _⟩ => by simp at hz
  | a :: r, y, ⟨z, hz, h⟩ => by
    rw [List.cons_append]
    unfold putL
    by_cases ha : cmpL x a < 0
    · rw [if_pos ha, if_pos ha]; rfl
    · rw [if_neg ha, if_neg ha]
      have hz2 : z ∈ r := by
        rcases List.mem_cons.1 hz with rfl | hz
        · exact absurd h ha
        · exact hz
      rw [put_snoc r y ⟨z, hz2, h⟩]; rfl
theorem put_first {x : Ls} : ∀ (A : List Ls) (y : Ls), (∀ z ∈ A, ¬ cmpL x z < 0) → cmpL x y < 0 → putL x (A ++ [y]) = A ++ [x] ++ [y]
  | [], y, _, h => by
    rw [List.nil_append]
    show (if cmpL x y < 0 then x :: y :: [] else y :: putL x []) = _
    rw [if_pos h]; rfl
  | a :: r, y, hA, h => by
    rw [List.cons_append]
    unfold putL
    rw [if_neg (hA a List.mem_cons_self), put_first r y (fun z hz => hA z (List.mem_cons_of_mem _ hz)) h]; rfl
/-- the state of with behind k leases -/
abbrev WithAt (L : List Ls) (x : Ls) (k : Nat) (b : Bool) : Prop := (b = true → ∃ y ∈ L.take k, cmpL x y < 0) ∧ (b = false → ∀ y ∈ L.take k, ¬ cmpL x y < 0)
theorem with_len {x : Ls} (k : Nat) (b : Bool) (hk : k ≤ L.length) : (withL L x k b).length ≤ k + 1 := by
  unfold withL
  split
  · rw [(putL_perm x _).length_eq, List.length_cons, List.length_take]; omega
  · rw [List.length_take]; omega
theorem with_put {x y : Ls} {k : Nat} (hy : L[k]? = some y) (h : WithAt L x k true) : withL L x (k + 1) true = withL L x k true ++ [y] ∧ WithAt L x (k + 1) true := by
  obtain ⟨z, hz, hc⟩ := h.1 rfl
  unfold withL
  rw [if_pos rfl, if_pos rfl, List.take_add_one, hy]
  refine ⟨put_snoc _ _ ⟨z, hz, hc⟩, fun _ => ⟨z, ?_, hc⟩, fun e => by cases e⟩
  rw [List.take_add_one]; exact List.mem_append_left _ hz
theorem with_now {x y : Ls} {k : Nat} (hy : L[k]? = some y) (h : WithAt L x k false) (hc : cmpL x y < 0) : withL L x (k + 1) true = withL L x k false ++ [x] ++ [y] ∧ WithAt L x (k + 1) true := by
  unfold withL
  rw [if_pos rfl, if_neg (by decide), List.take_add_one, hy]
  refine ⟨put_first _ _ (h.2 rfl) hc, fun _ => ⟨y, ?_, hc⟩, fun e => by cases e⟩
  rw [List.take_add_one, hy]; simp
theorem with_not {x y : Ls} {k : Nat} (hy : L[k]? = some y) (h : WithAt L x k false) (hc : ¬ cmpL x y < 0) : withL L x (k + 1) false = withL L x k false ++ [y] ∧ WithAt L x (k + 1) false := by
  unfold withL
  rw [if_neg (by decide), if_neg (by decide), List.take_add_one, hy]
  refine ⟨rfl, (fun e => by cases e), fun _ z hz => ?_⟩
  rw [List.take_add_one, hy] at hz
  rcases List.mem_append.1 hz with hz | hz
  · exact h.2 rfl z hz
  · simp at hz; subst hz; exact hc
theorem with_end {x : Ls} {b : Bool} (h : WithAt L x L.length b) : (b = true → withL L x L.length b = putL x L) ∧ (b = false → withL L x L.length b ++ [x] = putL x L) := by
  unfold withL
  rw [List.take_length]
  refine ⟨fun e => by rw [if_pos e], fun e => ?_⟩
  rw [if_neg (by rw [e]; decide)]
  exact (put_none L (fun y hy => h.2 e y (by rw [List.take_length]; exact hy))).symm
set_option maxRecDepth 100000 in
set_option maxHeartbeats 4000000 in
theorem with9_any (x : Ls) (okx : x.ok) {p : Option Go.Addr} {c : Nat} (w : World) (hl : LstL p L w) (hn : L.length ≤ 3000) (hok : ∀ y ∈ L, y.ok) :
    Calls Tryz.prog 54 #[.slice p L.length c, Lv x] w (LsPost2 w (putL x L)) := by
  have HL := hide hl
  have OKX := hide okx
  have OKL := hide hok
  have HX := hide (atL_new w x 30)
  have HB0 := hide (below_alloc w (.cells (leaseC x) 30))
  clear hl okx hok
  go_enter Tryz.func54, Tryz.ntmps54
  go_upto_region 1 with fail
  generalize w.alloc (.cells (leaseC x) 30) = V at *
  have OE := hide (ownL_empty V)
  have HB1 := hide (below_alloc V (.cells #[] 30))
  go_wp2_with fail
  go_loopw [5, 6, 7] (fun out pb ii wr => ∃ (k : Nat) (ov : Value) (b : Bool), k ≤ L.length ∧ ov = out ∧ pb = .bool b ∧ ii = .int .i64 (k : Nat) ∧ Hid (OwnL wr V.heap.size ov (withL L x k b)) ∧ Hid (WithAt L x k b) ∧ Hid (Below V.heap.size V wr)) (fun _ _ ii => fun _ => L.length - (intOf ii).toNat)
  case atStart => exact ⟨0, _, false, Nat.zero_le _, rfl, rfl, rfl, OE, hide ⟨(fun e => by cases e), (fun _ y hy => by simp at hy)⟩, HB1⟩
  case round =>
    clear OE HB1
    obtain ⟨k, ov, pt, hk, rfl, rfl, rfl, HO, HW, HB⟩ := hrel
    have hk0 : (0 : Int) ≤ (k : Int) := by omega
    by_cases hlt : k < L.length
    · obtain ⟨y, hy⟩ : ∃ y, L[k]? = some y := ⟨_, List.getElem?_eq_getElem hlt⟩
      have hlt2 : (k : Int) < (L.length : Int) := by omega
      have HLEN := hide (with_len (x := x) k pt hk)
      have KY := hide hy
      obtain ⟨b, o, rfl, hat⟩ := HL.out k y hy
      have HY := hide (fun W (H : NB wr W) => ((hat.st HB0.out).st HB.out).st H)
      have XW := hide (fun W (H : NB wr W) => (HX.out.st HB.out).st H)
      have oky := OKL.out y (List.mem_of_getElem? hy)
      have HYV := hide (hat.st HB0.out)
      have CM := hide (fun W => rcompare3_any x.kind OKX.out.p x.n y.kind oky.p y.n W)
      clear hat hy oky
      cases pt with
      | true =>
        have WP := hide (with_put KY.out HW.out)
        clear CM KY HW
        generalize withL L x k true = F at *
        go_wp2_with fail
        refine wp_region_quiet (C := NB wr) (by kernel_rfl) (by kernel_rfl) (below_drew wr) (wpQuiet_step (fun K0 hK0 => ?_))
        go_simp
        first | (with_reducible refine hK0 _ (wpQuiet_step (fun K1 hK1 => ?_))) | (with_reducible refine ⟨_, fun _ _ => rfl, hK0 _ (wpQuiet_step (fun K1 hK1 => ?_))⟩) | (rw [if_neg (by intro e; cases e)]; with_reducible refine hK0 _ (wpQuiet_step (fun K1 hK1 => ?_)))
        clear hK0 K0
        go_simp
        first | (with_reducible refine hK1 _ (wpQuiet_step (fun K0 hK0 => ?_))) | (with_reducible refine ⟨_, fun _ _ => rfl, hK1 _ (wpQuiet_step (fun K0 hK0 => ?_))⟩) | (rw [if_neg (by intro e; cases e)]; with_reducible refine hK1 _ (wpQuiet_step (fun K0 hK0 => ?_)))
        clear hK1 K1
        go_simp
        first | (with_reducible refine hK0 _ (wpQuiet_step (fun K1 hK1 => ?_))) | (with_reducible refine ⟨_, fun _ _ => rfl, hK0 _ (wpQuiet_step (fun K1 hK1 => ?_))⟩) | (rw [if_neg (by intro e; cases e)]; with_reducible refine hK0 _ (wpQuiet_step (fun K1 hK1 => ?_)))
        clear hK0 K0
        go_simp
        first | (with_reducible refine hK1 _ (wpQuiet_step (fun K0 hK0 => ?_))) | (with_reducible refine ⟨_, fun _ _ => rfl, hK1 _ (wpQuiet_step (fun K0 hK0 => ?_))⟩) | (rw [if_neg (by intro e; cases e)]; with_reducible refine hK1 _ (wpQuiet_step (fun K0 hK0 => ?_)))
        clear hK1 K1
        go_simp
        first | (with_reducible refine hK0 _ (wpQuiet_step (fun K1 hK1 => ?_))) | (with_reducible refine ⟨_, fun _ _ => rfl, hK0 _ (wpQuiet_step (fun K1 hK1 => ?_))⟩) | (rw [if_neg (by intro e; cases e)]; with_reducible refine hK0 _ (wpQuiet_step (fun K1 hK1 => ?_)))
        clear hK0 K0
        go_simp
        first | (with_reducible refine hK1 _ (wpQuiet_step (fun K0 hK0 => ?_))) | (with_reducible refine ⟨_, fun _ _ => rfl, hK1 _ (wpQuiet_step (fun K0 hK0 => ?_))⟩) | (rw [if_neg (by intro e; cases e)]; with_reducible refine hK1 _ (wpQuiet_step (fun K0 hK0 => ?_)))
        clear hK1 K1
        go_simp
        first | (with_reducible refine hK0 _ (wpQuiet_step (fun K1 hK1 => ?_))) | (with_reducible refine ⟨_, fun _ _ => rfl, hK0 _ (wpQuiet_step (fun K1 hK1 => ?_))⟩) | (rw [if_neg (by intro e; cases e)]; with_reducible refine hK0 _ (wpQuiet_step (fun K1 hK1 => ?_)))
        clear hK0 K0
        go_simp
        first | (with_reducible refine hK1 _ (wpQuiet_step (fun K0 hK0 => ?_))) | (with_reducible refine ⟨_, fun _ _ => rfl, hK1 _ (wpQuiet_step (fun K0 hK0 => ?_))⟩) | (rw [if_neg (by intro e; cases e)]; with_reducible refine hK1 _ (wpQuiet_step (fun K0 hK0 => ?_)))
        clear hK1 K1
        go_simp
        first | (with_reducible refine hK0 _ (wpQuiet_step (fun K1 hK1 => ?_))) | (with_reducible refine ⟨_, fun _ _ => rfl, hK0 _ (wpQuiet_step (fun K1 hK1 => ?_))⟩) | (rw [if_neg (by intro e; cases e)]; with_reducible refine hK0 _ (wpQuiet_step (fun K1 hK1 => ?_)))
        clear hK0 K0
        go_simp
        first | (with_reducible refine hK1 _ (wpQuiet_step (fun K0 hK0 => ?_))) | (with_reducible refine ⟨_, fun _ _ => rfl, hK1 _ (wpQuiet_step (fun K0 hK0 => ?_))⟩) | (rw [if_neg (by intro e; cases e)]; with_reducible refine hK1 _ (wpQuiet_step (fun K0 hK0 => ?_)))
        clear hK1 K1
        go_simp
        first | (with_reducible refine hK0 _ (wpQuiet_step (fun K1 hK1 => ?_))) | (with_reducible refine ⟨_, fun _ _ => rfl, hK0 _ (wpQuiet_step (fun K1 hK1 => ?_))⟩) | (rw [if_neg (by intro e; cases e)]; with_reducible refine hK0 _ (wpQuiet_step (fun K1 hK1 => ?_)))
        clear hK0 K0
        go_simp
        first | (with_reducible refine hK1 _ (wpQuiet_step (fun K0 hK0 => ?_))) | (with_reducible refine ⟨_, fun _ _ => rfl, hK1 _ (wpQuiet_step (fun K0 hK0 => ?_))⟩) | (rw [if_neg (by intro e; cases e)]; with_reducible refine hK1 _ (wpQuiet_step (fun K0 hK0 => ?_)))
        clear hK1 K1
        go_simp
        first | (with_reducible refine hK0 _ (wpQuiet_step (fun K1 hK1 => ?_))) | (with_reducible refine ⟨_, fun _ _ => rfl, hK0 _ (wpQuiet_step (fun K1 hK1 => ?_))⟩) | (rw [if_neg (by intro e; cases e)]; with_reducible refine hK0 _ (wpQuiet_step (fun K1 hK1 => ?_)))
        clear hK0 K0
        go_simp
        first | (with_reducible refine hK1 _ (wpQuiet_step (fun K0 hK0 => ?_))) | (with_reducible refine ⟨_, fun _ _ => rfl, hK1 _ (wpQuiet_step (fun K0 hK0 => ?_))⟩) | (rw [if_neg (by intro e; cases e)]; with_reducible refine hK1 _ (wpQuiet_step (fun K0 hK0 => ?_)))
        clear hK1 K1
        go_simp
        first | (with_reducible refine hK0 _ (wpQuiet_step (fun K1 hK1 => ?_))) | (with_reducible refine ⟨_, fun _ _ => rfl, hK0 _ (wpQuiet_step (fun K1 hK1 => ?_))⟩) | (rw [if_neg (by intro e; cases e)]; with_reducible refine hK0 _ (wpQuiet_step (fun K1 hK1 => ?_)))
        clear hK0 K0
        go_simp
        first | (with_reducible refine hK1 _ (wpQuiet_step (fun K0 hK0 => ?_))) | (with_reducible refine ⟨_, fun _ _ => rfl, hK1 _ (wpQuiet_step (fun K0 hK0 => ?_))⟩) | (rw [if_neg (by intro e; cases e)]; with_reducible refine hK1 _ (wpQuiet_step (fun K0 hK0 => ?_)))
        clear hK1 K1
        go_simp
        first | (with_reducible refine hK0 _ (wpQuiet_step (fun K1 hK1 => ?_))) | (with_reducible refine ⟨_, fun _ _ => rfl, hK0 _ (wpQuiet_step (fun K1 hK1 => ?_))⟩) | (rw [if_neg (by intro e; cases e)]; with_reducible refine hK0 _ (wpQuiet_step (fun K1 hK1 => ?_)))
        clear hK0 K0
        go_simp
        first | (with_reducible refine hK1 _ (wpQuiet_step (fun K0 hK0 => ?_))) | (with_reducible refine ⟨_, fun _ _ => rfl, hK1 _ (wpQuiet_step (fun K0 hK0 => ?_))⟩) | (rw [if_neg (by intro e; cases e)]; with_reducible refine hK1 _ (wpQuiet_step (fun K0 hK0 => ?_)))
        clear hK1 K1
        go_simp
        first | (with_reducible refine hK0 _ (wpQuiet_step (fun K1 hK1 => ?_))) | (with_reducible refine ⟨_, fun _ _ => rfl, hK0 _ (wpQuiet_step (fun K1 hK1 => ?_))⟩) | (rw [if_neg (by intro e; cases e)]; with_reducible refine hK0 _ (wpQuiet_step (fun K1 hK1 => ?_)))
        clear hK0 K0
        go_simp
        first | (with_reducible refine hK1 _ (wpQuiet_nil ?_)) | (with_reducible refine ⟨_, fun _ _ => rfl, hK1 _ (wpQuiet_nil ?_)⟩) | (rw [if_neg (by intro e; cases e)]; with_reducible refine hK1 _ (wpQuiet_nil ?_))
        clear hK1 K1
        intro w2 H2
        have HB2 := hide (HB.out.trans (H2.mono HB.out.size))
        have HO2 := hide (ownL_below HO.out H2)
        obtain ⟨u0, u1, u2, u3, u4, u5, u6, u7⟩ := HY.out w2 H2
        have HBS := HB2.out.size
        clear HO HB HY XW H2
        go_wp2_with (at_builtin; refine wpList_pushL rfl (.tmp 39) (.tmp 44) rfl V.heap.size ov F rfl y w2 rfl HO2.out rfl (by have := HLEN.out; omega) HBS ?_; intro v5 w5 O5 Z5)
        go_roundw
        case rel => exact ⟨k + 1, v5, true, hlt, rfl, rfl, by go_num, by rw [WP.out.1]; exact hide O5, hide WP.out.2, hide (HB2.out.trans Z5)⟩
        case measure => simp [intOf]; omega
      | false =>
        have CX := hide (show compareS x.kind x.p x.n y.kind y.p y.n = cmpL x y from rfl)
        by_cases hc : cmpL x y < 0
        · have WP := hide (with_now KY.out HW.out hc)
          rw [← CX.out] at hc
          generalize compareS x.kind x.p x.n y.kind y.p y.n = cv at *
          clear KY HW CX
          generalize withL L x k false = F at *
          go_wp2_with fail
          refine wp_region_quiet (C := NB wr) (by kernel_rfl) (by kernel_rfl) (below_drew wr) (wpQuiet_step (fun K0 hK0 => ?_))
          go_simp
          first | (with_reducible refine hK0 _ (wpQuiet_step (fun K1 hK1 => ?_))) | (with_reducible refine ⟨_, fun _ _ => rfl, hK0 _ (wpQuiet_step (fun K1 hK1 => ?_))⟩) | (rw [if_neg (by intro e; cases e)]; with_reducible refine hK0 _ (wpQuiet_step (fun K1 hK1 => ?_)))
          clear hK0 K0
          go_simp
          first | (with_reducible refine hK1 _ (wpQuiet_step (fun K0 hK0 => ?_))) | (with_reducible refine ⟨_, fun _ _ => rfl, hK1 _ (wpQuiet_step (fun K0 hK0 => ?_))⟩) | (rw [if_neg (by intro e; cases e)]; with_reducible refine hK1 _ (wpQuiet_step (fun K0 hK0 => ?_)))
          clear hK1 K1
          go_simp
          first | (with_reducible refine hK0 _ (wpQuiet_step (fun K1 hK1 => ?_))) | (with_reducible refine ⟨_, fun _ _ => rfl, hK0 _ (wpQuiet_step (fun K1 hK1 => ?_))⟩) | (rw [if_neg (by intro e; cases e)]; with_reducible refine hK0 _ (wpQuiet_step (fun K1 hK1 => ?_)))
          clear hK0 K0
          go_simp
          first | (with_reducible refine hK1 _ (wpQuiet_step (fun K0 hK0 => ?_))) | (with_reducible refine ⟨_, fun _ _ => rfl, hK1 _ (wpQuiet_step (fun K0 hK0 => ?_))⟩) | (rw [if_neg (by intro e; cases e)]; with_reducible refine hK1 _ (wpQuiet_step (fun K0 hK0 => ?_)))
          clear hK1 K1
          go_simp
          refine ⟨.int .i64 x.kind, fun W hW => ?_, hK0 _ (wpQuiet_step (fun K1 hK1 => ?_))⟩
          · ((obtain ⟨u0, u1, u2, u3, u4, u5, u6, u7⟩ := XW.out W hW; simp [go_sem, u0]))
          clear hK0 K0
          go_simp
          first | (with_reducible refine hK1 _ (wpQuiet_step (fun K0 hK0 => ?_))) | (with_reducible refine ⟨_, fun _ _ => rfl, hK1 _ (wpQuiet_step (fun K0 hK0 => ?_))⟩) | (rw [if_neg (by intro e; cases e)]; with_reducible refine hK1 _ (wpQuiet_step (fun K0 hK0 => ?_)))
          clear hK1 K1
          go_simp
          refine ⟨Pv x.p x.n, fun W hW => ?_, hK0 _ (wpQuiet_step (fun K1 hK1 => ?_))⟩
          · ((obtain ⟨u0, u1, u2, u3, u4, u5, u6, u7⟩ := XW.out W hW; simp [go_sem, u1, u2, u3]))
          clear hK0 K0
          go_simp
          first | (with_reducible refine hK1 _ (wpQuiet_step (fun K0 hK0 => ?_))) | (with_reducible refine ⟨_, fun _ _ => rfl, hK1 _ (wpQuiet_step (fun K0 hK0 => ?_))⟩) | (rw [if_neg (by intro e; cases e)]; with_reducible refine hK1 _ (wpQuiet_step (fun K0 hK0 => ?_)))
          clear hK1 K1
          go_simp
          first | (with_reducible refine hK0 _ (wpQuiet_step (fun K1 hK1 => ?_))) | (with_reducible refine ⟨_, fun _ _ => rfl, hK0 _ (wpQuiet_step (fun K1 hK1 => ?_))⟩) | (rw [if_neg (by intro e; cases e)]; with_reducible refine hK0 _ (wpQuiet_step (fun K1 hK1 => ?_)))
          clear hK0 K0
          go_simp
          first | (with_reducible refine hK1 _ (wpQuiet_step (fun K0 hK0 => ?_))) | (with_reducible refine ⟨_, fun _ _ => rfl, hK1 _ (wpQuiet_step (fun K0 hK0 => ?_))⟩) | (rw [if_neg (by intro e; cases e)]; with_reducible refine hK1 _ (wpQuiet_step (fun K0 hK0 => ?_)))
          clear hK1 K1
          go_simp
          first | (with_reducible refine hK0 _ (wpQuiet_step (fun K1 hK1 => ?_))) | (with_reducible refine ⟨_, fun _ _ => rfl, hK0 _ (wpQuiet_step (fun K1 hK1 => ?_))⟩) | (rw [if_neg (by intro e; cases e)]; with_reducible refine hK0 _ (wpQuiet_step (fun K1 hK1 => ?_)))
          clear hK0 K0
          go_simp
          refine ⟨.int .i64 y.kind, fun W hW => ?_, hK1 _ (wpQuiet_step (fun K0 hK0 => ?_))⟩
          · ((obtain ⟨u0, u1, u2, u3, u4, u5, u6, u7⟩ := HY.out W hW; simp [go_sem, u0]))
          clear hK1 K1
          go_simp
          first | (with_reducible refine hK0 _ (wpQuiet_step (fun K1 hK1 => ?_))) | (with_reducible refine ⟨_, fun _ _ => rfl, hK0 _ (wpQuiet_step (fun K1 hK1 => ?_))⟩) | (rw [if_neg (by intro e; cases e)]; with_reducible refine hK0 _ (wpQuiet_step (fun K1 hK1 => ?_)))
          clear hK0 K0
          go_simp
          first | (with_reducible refine hK1 _ (wpQuiet_step (fun K0 hK0 => ?_))) | (with_reducible refine ⟨_, fun _ _ => rfl, hK1 _ (wpQuiet_step (fun K0 hK0 => ?_))⟩) | (rw [if_neg (by intro e; cases e)]; with_reducible refine hK1 _ (wpQuiet_step (fun K0 hK0 => ?_)))
          clear hK1 K1
          go_simp
          first | (with_reducible refine hK0 _ (wpQuiet_step (fun K1 hK1 => ?_))) | (with_reducible refine ⟨_, fun _ _ => rfl, hK0 _ (wpQuiet_step (fun K1 hK1 => ?_))⟩) | (rw [if_neg (by intro e; cases e)]; with_reducible refine hK0 _ (wpQuiet_step (fun K1 hK1 => ?_)))
          clear hK0 K0
          go_simp
          first | (with_reducible refine hK1 _ (wpQuiet_step (fun K0 hK0 => ?_))) | (with_reducible refine ⟨_, fun _ _ => rfl, hK1 _ (wpQuiet_step (fun K0 hK0 => ?_))⟩) | (rw [if_neg (by intro e; cases e)]; with_reducible refine hK1 _ (wpQuiet_step (fun K0 hK0 => ?_)))
          clear hK1 K1
          go_simp
          refine ⟨Pv y.p y.n, fun W hW => ?_, hK0 _ (wpQuiet_step (fun K1 hK1 => ?_))⟩
          · ((obtain ⟨u0, u1, u2, u3, u4, u5, u6, u7⟩ := HY.out W hW; simp [go_sem, u1, u2, u3]))
          clear hK0 K0
          go_simp
          refine ⟨.int .i64 cv, fun W hW => ?_, hK1 _ (wpQuiet_step (fun K0 hK0 => ?_))⟩
          · exact (CM.out W).mono fun e w2 ⟨he, hb⟩ => ⟨he, NB.step hW hb⟩
          clear hK1 K1
          go_simp
          first | (with_reducible refine hK0 _ (wpQuiet_step (fun K1 hK1 => ?_))) | (with_reducible refine ⟨_, fun _ _ => rfl, hK0 _ (wpQuiet_step (fun K1 hK1 => ?_))⟩) | (rw [if_neg (by intro e; cases e)]; with_reducible refine hK0 _ (wpQuiet_step (fun K1 hK1 => ?_)))
          clear hK0 K0
          go_simp
          first | (with_reducible refine hK1 _ (wpQuiet_nil ?_)) | (with_reducible refine ⟨_, fun _ _ => rfl, hK1 _ (wpQuiet_nil ?_)⟩) | (rw [if_neg (by intro e; cases e)]; with_reducible refine hK1 _ (wpQuiet_nil ?_))
          clear hK1 K1
          intro w2 H2
          have HB2 := hide (HB.out.trans (H2.mono HB.out.size))
          have HO2 := hide (ownL_below HO.out H2)
          obtain ⟨u0, u1, u2, u3, u4, u5, u6, u7⟩ := XW.out w2 H2
          have HBS := HB2.out.size
          clear HO HB HY XW CM H2
          go_wp2_with (at_builtin; first
            | (refine wpList_pushL rfl (.tmp 35) (.tmp 37) rfl V.heap.size ov F rfl x w2 rfl HO2.out rfl (by have := HLEN.out; omega) HBS ?_; intro v5 w5 O5 Z5; have HB5 := hide (HB2.out.trans Z5); have HBS5 := HB5.out.size; obtain ⟨a0, a1, a2, a3, a4, a5, a6, a7⟩ := HYV.out.st HB5.out)
            | (refine wpList_pushL rfl (.tmp 39) (.tmp 44) rfl V.heap.size v5 (F ++ [x]) rfl y w5 rfl O5 rfl (by have := HLEN.out; rw [List.length_append]; show F.length + 1 ≤ 5000; omega) HBS5 ?_; intro v6 w6 O6 Z6))
          go_roundw
          case rel => exact ⟨k + 1, v6, true, hlt, rfl, rfl, by go_num, by rw [WP.out.1]; exact hide O6, hide WP.out.2, hide (HB5.out.trans Z6)⟩
          case measure => simp [intOf]; omega
        · have WP := hide (with_not KY.out HW.out hc)
          rw [← CX.out] at hc
          generalize compareS x.kind x.p x.n y.kind y.p y.n = cv at *
          clear KY HW CX
          generalize withL L x k false = F at *
          go_wp2_with fail
          refine wp_region_quiet (C := NB wr) (by kernel_rfl) (by kernel_rfl) (below_drew wr) (wpQuiet_step (fun K0 hK0 => ?_))
          go_simp
          first | (with_reducible refine hK0 _ (wpQuiet_step (fun K1 hK1 => ?_))) | (with_reducible refine ⟨_, fun _ _ => rfl, hK0 _ (wpQuiet_step (fun K1 hK1 => ?_))⟩) | (rw [if_neg (by intro e; cases e)]; with_reducible refine hK0 _ (wpQuiet_step (fun K1 hK1 => ?_)))
          clear hK0 K0
          go_simp
          first | (with_reducible refine hK1 _ (wpQuiet_step (fun K0 hK0 => ?_))) | (with_reducible refine ⟨_, fun _ _ => rfl, hK1 _ (wpQuiet_step (fun K0 hK0 => ?_))⟩) | (rw [if_neg (by intro e; cases e)]; with_reducible refine hK1 _ (wpQuiet_step (fun K0 hK0 => ?_)))
          clear hK1 K1
          go_simp
          first | (with_reducible refine hK0 _ (wpQuiet_step (fun K1 hK1 => ?_))) | (with_reducible refine ⟨_, fun _ _ => rfl, hK0 _ (wpQuiet_step (fun K1 hK1 => ?_))⟩) | (rw [if_neg (by intro e; cases e)]; with_reducible refine hK0 _ (wpQuiet_step (fun K1 hK1 => ?_)))
          clear hK0 K0
          go_simp
          first | (with_reducible refine hK1 _ (wpQuiet_step (fun K0 hK0 => ?_))) | (with_reducible refine ⟨_, fun _ _ => rfl, hK1 _ (wpQuiet_step (fun K0 hK0 => ?_))⟩) | (rw [if_neg (by intro e; cases e)]; with_reducible refine hK1 _ (wpQuiet_step (fun K0 hK0 => ?_)))
          clear hK1 K1
          go_simp
          refine ⟨.int .i64 x.kind, fun W hW => ?_, hK0 _ (wpQuiet_step (fun K1 hK1 => ?_))⟩
          · ((obtain ⟨u0, u1, u2, u3, u4, u5, u6, u7⟩ := XW.out W hW; simp [go_sem, u0]))
          clear hK0 K0
          go_simp
          first | (with_reducible refine hK1 _ (wpQuiet_step (fun K0 hK0 => ?_))) | (with_reducible refine ⟨_, fun _ _ => rfl, hK1 _ (wpQuiet_step (fun K0 hK0 => ?_))⟩) | (rw [if_neg (by intro e; cases e)]; with_reducible refine hK1 _ (wpQuiet_step (fun K0 hK0 => ?_)))
          clear hK1 K1
          go_simp
          refine ⟨Pv x.p x.n, fun W hW => ?_, hK0 _ (wpQuiet_step (fun K1 hK1 => ?_))⟩
          · ((obtain ⟨u0, u1, u2, u3, u4, u5, u6, u7⟩ := XW.out W hW; simp [go_sem, u1, u2, u3]))
          clear hK0 K0
          go_simp
          first | (with_reducible refine hK1 _ (wpQuiet_step (fun K0 hK0 => ?_))) | (with_reducible refine ⟨_, fun _ _ => rfl, hK1 _ (wpQuiet_step (fun K0 hK0 => ?_))⟩) | (rw [if_neg (by intro e; cases e)]; with_reducible refine hK1 _ (wpQuiet_step (fun K0 hK0 => ?_)))
          clear hK1 K1
          go_simp
          first | (with_reducible refine hK0 _ (wpQuiet_step (fun K1 hK1 => ?_))) | (with_reducible refine ⟨_, fun _ _ => rfl, hK0 _ (wpQuiet_step (fun K1 hK1 => ?_))⟩) | (rw [if_neg (by intro e; cases e)]; with_reducible refine hK0 _ (wpQuiet_step (fun K1 hK1 => ?_)))
          clear hK0 K0
          go_simp
          first | (with_reducible refine hK1 _ (wpQuiet_step (fun K0 hK0 => ?_))) | (with_reducible refine ⟨_, fun _ _ => rfl, hK1 _ (wpQuiet_step (fun K0 hK0 => ?_))⟩) | (rw [if_neg (by intro e; cases e)]; with_reducible refine hK1 _ (wpQuiet_step (fun K0 hK0 => ?_)))
          clear hK1 K1
          go_simp
          first | (with_reducible refine hK0 _ (wpQuiet_step (fun K1 hK1 => ?_))) | (with_reducible refine ⟨_, fun _ _ => rfl, hK0 _ (wpQuiet_step (fun K1 hK1 => ?_))⟩) | (rw [if_neg (by intro e; cases e)]; with_reducible refine hK0 _ (wpQuiet_step (fun K1 hK1 => ?_)))
          clear hK0 K0
          go_simp
          refine ⟨.int .i64 y.kind, fun W hW => ?_, hK1 _ (wpQuiet_step (fun K0 hK0 => ?_))⟩
          · ((obtain ⟨u0, u1, u2, u3, u4, u5, u6, u7⟩ := HY.out W hW; simp [go_sem, u0]))
          clear hK1 K1
          go_simp
          first | (with_reducible refine hK0 _ (wpQuiet_step (fun K1 hK1 => ?_))) | (with_reducible refine ⟨_, fun _ _ => rfl, hK0 _ (wpQuiet_step (fun K1 hK1 => ?_))⟩) | (rw [if_neg (by intro e; cases e)]; with_reducible refine hK0 _ (wpQuiet_step (fun K1 hK1 => ?_)))
          clear hK0 K0
          go_simp
          first | (with_reducible refine hK1 _ (wpQuiet_step (fun K0 hK0 => ?_))) | (with_reducible refine ⟨_, fun _ _ => rfl, hK1 _ (wpQuiet_step (fun K0 hK0 => ?_))⟩) | (rw [if_neg (by intro e; cases e)]; with_reducible refine hK1 _ (wpQuiet_step (fun K0 hK0 => ?_)))
          clear hK1 K1
          go_simp
          first | (with_reducible refine hK0 _ (wpQuiet_step (fun K1 hK1 => ?_))) | (with_reducible refine ⟨_, fun _ _ => rfl, hK0 _ (wpQuiet_step (fun K1 hK1 => ?_))⟩) | (rw [if_neg (by intro e; cases e)]; with_reducible refine hK0 _ (wpQuiet_step (fun K1 hK1 => ?_)))
          clear hK0 K0
          go_simp
          first | (with_reducible refine hK1 _ (wpQuiet_step (fun K0 hK0 => ?_))) | (with_reducible refine ⟨_, fun _ _ => rfl, hK1 _ (wpQuiet_step (fun K0 hK0 => ?_))⟩) | (rw [if_neg (by intro e; cases e)]; with_reducible refine hK1 _ (wpQuiet_step (fun K0 hK0 => ?_)))
          clear hK1 K1
          go_simp
          refine ⟨Pv y.p y.n, fun W hW => ?_, hK0 _ (wpQuiet_step (fun K1 hK1 => ?_))⟩
          · ((obtain ⟨u0, u1, u2, u3, u4, u5, u6, u7⟩ := HY.out W hW; simp [go_sem, u1, u2, u3]))
          clear hK0 K0
          go_simp
          refine ⟨.int .i64 cv, fun W hW => ?_, hK1 _ (wpQuiet_step (fun K0 hK0 => ?_))⟩
          · exact (CM.out W).mono fun e w2 ⟨he, hb⟩ => ⟨he, NB.step hW hb⟩
          clear hK1 K1
          go_simp
          first | (with_reducible refine hK0 _ (wpQuiet_step (fun K1 hK1 => ?_))) | (with_reducible refine ⟨_, fun _ _ => rfl, hK0 _ (wpQuiet_step (fun K1 hK1 => ?_))⟩) | (rw [if_neg (by intro e; cases e)]; with_reducible refine hK0 _ (wpQuiet_step (fun K1 hK1 => ?_)))
          clear hK0 K0
          go_simp
          first | (with_reducible refine hK1 _ (wpQuiet_nil ?_)) | (with_reducible refine ⟨_, fun _ _ => rfl, hK1 _ (wpQuiet_nil ?_)⟩) | (rw [if_neg (by intro e; cases e)]; with_reducible refine hK1 _ (wpQuiet_nil ?_))
          clear hK1 K1
          intro w2 H2
          have HB2 := hide (HB.out.trans (H2.mono HB.out.size))
          have HO2 := hide (ownL_below HO.out H2)
          obtain ⟨u0, u1, u2, u3, u4, u5, u6, u7⟩ := HY.out w2 H2
          have HBS := HB2.out.size
          clear HO HB HY XW CM H2
          go_wp2_with (at_builtin; refine wpList_pushL rfl (.tmp 39) (.tmp 44) rfl V.heap.size ov F rfl y w2 rfl HO2.out rfl (by have := HLEN.out; omega) HBS ?_; intro v5 w5 O5 Z5)
          go_roundw
          case rel => exact ⟨k + 1, v5, false, hlt, rfl, rfl, by go_num, by rw [WP.out.1]; exact hide O5, hide WP.out.2, hide (HB2.out.trans Z5)⟩
          case measure => simp [intOf]; omega
    · have hlt2 : ¬ (k : Int) < (L.length : Int) := by omega
      have hke : k = L.length := by omega
      have HWE := hide (show (pt = true → withL L x k pt = putL x L) ∧ (pt = false → withL L x k pt ++ [x] = putL x L) by have := HW.out; rw [hke] at this ⊢; exact with_end this)
      have HLEN := hide (with_len (x := x) k pt hk)
      have XW := hide (HX.out.st HB.out)
      clear HW hke
      cases pt with
      | true =>
        have END : Hid (LsPost2 w (putL x L) (.returned ov) wr) := hide ⟨ov, rfl, (ownL_res (by have := HO.out; rwa [HWE.out.1 rfl] at this)).older HB0.out.size, chain HB0.out HB.out, ownL_nil HO.out⟩
        clear HO HB HWE HX XW
        go_wp2
        go_ret
        exact END.out
      | false =>
        obtain ⟨u0, u1, u2, u3, u4, u5, u6, u7⟩ := XW.out
        have HBS := HB.out.size
        have WE := hide (HWE.out.2 rfl)
        generalize withL L x k false = F at *
        clear HWE XW HX
        go_wp2_with (at_builtin; refine wpList_pushL rfl (.tmp 48) (.tmp 50) rfl V.heap.size ov F rfl x wr rfl HO.out rfl (by have := HLEN.out; omega) HBS ?_; intro v5 w5 O5 Z5)
        go_ret
        exact ⟨v5, rfl, (ownL_res (by rw [← WE.out]; exact O5)).older HB0.out.size, chain HB0.out (HB.out.trans Z5), ownL_nil O5⟩
end Go.Proofs.YtpldkgollhbolaaGreat
