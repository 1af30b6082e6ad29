/-
  PutStatus, GetStatus, readStatus, Emit. Conditions: a string is no longer than an int; a row is no longer than an int; an int is an int of 64 bits.
-/
import Derived.Test.YtcpldojgmboipaaSxF
namespace Go.Proofs.Ytcpldojgmboipaa
open Go.RowKit Go.Joins

def statV (c : Int) : List UInt8 := if 0 ≤ c ∧ c ≤ 65535 then beL 2 c.toNat else []
set_option maxRecDepth 100000 in
theorem putStatus_any (c : Int) (w : World) : Calls Try.prog 17 #[.int .i64 c] w (Gives (St (statV c)) w) := by
  by_cases h : 0 ≤ c ∧ c ≤ 65535
  · obtain ⟨n, rfl⟩ : ∃ n : Nat, c = (n : Int) := ⟨c.toNat, by omega⟩
    have hn : n < 65536 := by omega
    have P := hide (fun W => put16_any n hn W)
    have V := hide (show statV (n : Int) = beL 2 n by unfold statV; rw [if_pos h]; rfl)
    have h1 : ¬ (n : Int) < 0 := by omega
    have h2 : ¬ (65535 : Int) < (n : Int) := by omega
    have h3 : IntKind.u16.wrap (n : Int) = (n : Int) := by rw [IntKind.wrap_u16]; omega
    generalize beL 2 n = l at *
    clear h hn
    go_enter Try.func17, Try.ntmps17
    go_wp2_with fail
    refine (P.out _).mono ?_
    rintro e w' ⟨rfl, hb⟩
    go_wp2
    go_ret
    exact ⟨congrArg Ending.returned (by rw [V.out]; rfl), hb⟩
  · have V := hide (show statV c = [] by unfold statV; rw [if_neg h])
    by_cases h1 : c < 0
    · clear h
      go_enter Try.func17, Try.ntmps17
      go_wp2
      go_ret
      exact ⟨congrArg Ending.returned (by rw [V.out]; rfl), Below.refl _ _⟩
    · have h2 : (65535 : Int) < c := by omega
      clear h
      go_enter Try.func17, Try.ntmps17
      go_wp2
      go_ret
      exact ⟨congrArg Ending.returned (by rw [V.out]; rfl), Below.refl _ _⟩
/-- what a status's data tell -/
def getC (s : ByteArray) : Int := if s.size < 2 then -1 else (num 2 s : Nat)
def getK (s : ByteArray) : Bool := decide (2 ≤ s.size)
theorem get2 {s : ByteArray} : cutO s 0 2 = getK s ∧ (2 ≤ s.size → getV 2 s 0 = num 2 s) := by
  constructor
  · unfold cutO getK; rw [Bool.eq_iff_iff, decide_eq_true_eq, decide_eq_true_eq]; omega
  · intro h
    unfold getV num
    rw [cut_yes (by unfold cutO; rw [decide_eq_true_eq]; omega), sub_list]; rfl
set_option maxRecDepth 100000 in
theorem getStatus_any {s : ByteArray} (hs : s.size ≤ maxLen) (w : World) : Calls Try.prog 15 #[.string s] w (Same (.tuple #[.int .i64 (getC s), .bool (getK s)]) w) := by
  have G := hide (fun W => get16_any s hs (show I64 0 from ⟨by omega, by omega⟩) W)
  rw [get2.1] at G
  by_cases h : 2 ≤ s.size
  · have K := hide (show getK s = true by unfold getK; simpa using h)
    have V := hide (show getC s = (num 2 s : Nat) by unfold getC; rw [if_neg (by omega)])
    rw [K.out, get2.2 h] at G
    have N := num_lt 2 s
    generalize num 2 s = v at *
    have h3 : IntKind.i64.wrap (v : Int) = (v : Int) := by rw [IntKind.wrap_i64]; omega
    clear h hs
    go_enter Try.func15, Try.ntmps15
    go_wp2_with fail
    refine (G.out _).mono ?_
    rintro e w' ⟨rfl, rfl⟩
    go_wp2
    go_ret2
    exact ⟨congrArg Ending.returned (tup2 (by rw [V.out]; rfl) (by rw [K.out]; rfl)), rfl⟩
  · have K := hide (show getK s = false by unfold getK; simpa using h)
    have V := hide (show getC s = -1 by unfold getC; rw [if_pos (by omega)])
    rw [K.out] at G
    generalize getV 2 s 0 = v at *
    clear h hs
    go_enter Try.func15, Try.ntmps15
    go_wp2_with fail
    refine (G.out _).mono ?_
    rintro e w' ⟨rfl, rfl⟩
    go_wp2
    go_ret2
    exact ⟨congrArg Ending.returned (tup2 (by rw [V.out]; rfl) (by rw [K.out]; rfl)), rfl⟩
set_option maxRecDepth 100000 in
theorem readStatus_ok {s : ByteArray} (hs : s.size ≤ maxLen) (h2 : ¬ s.size < 2) (p : Go.Addr) (c : Int) (w : World) (hc : w.cell? p = some (.int .i64 c)) (hz : w.frozen? p = false) :
    Calls Try.prog 77 #[.string s, .pointer (some p)] w fun e w' => e = .returned (.tuple #[]) ∧ w' = if c = -1 then w.setCell p (.int .i64 ((beV ((lb s).take 2) : Nat) : Int)) else w := by
  have G := hide (fun W => getStatus_any hs W)
  rw [show getK s = true by unfold getK; rw [decide_eq_true_eq]; omega, show getC s = ((beV ((lb s).take 2) : Nat) : Int) by unfold getC; rw [if_neg h2]; rfl] at G
  generalize ((beV ((lb s).take 2) : Nat) : Int) = v at *
  have M := hide (fun W => must_yes 130 W)
  clear hs h2
  by_cases h : c = -1
  · subst h
    rw [if_pos rfl]
    go_enter Try.func77, Try.ntmps77
    go_wp2_with fail
    refine (G.out _).mono ?_
    rintro e w' ⟨rfl, rfl⟩
    go_wp2_with fail
    refine (M.out _).mono ?_
    rintro e w' ⟨rfl, rfl⟩
    go_wp2
    exact bodyPost_end (v := .tuple #[]) (by simp [results, Try.results77, go_sem]) rfl ⟨rfl, rfl⟩
  · rw [if_neg h]
    have h1 : (c == -1) = false := by simpa using h
    clear h
    go_enter Try.func77, Try.ntmps77
    go_wp2_with fail
    refine (G.out _).mono ?_
    rintro e w' ⟨rfl, rfl⟩
    go_wp2_with fail
    refine (M.out _).mono ?_
    rintro e w' ⟨rfl, rfl⟩
    go_wp2
    exact bodyPost_end (v := .tuple #[]) (by simp [results, Try.results77, go_sem]) rfl ⟨rfl, rfl⟩
set_option maxRecDepth 100000 in
theorem readStatus_no {s : ByteArray} (hs : s.size ≤ maxLen) (h2 : s.size < 2) (p : Go.Addr) (w : World) :
    Calls Try.prog 77 #[.string s, .pointer (some p)] w (Dies 130 No w) := by
  have G := hide (fun W => getStatus_any hs W)
  rw [show getK s = false by unfold getK; rw [decide_eq_false_iff_not]; omega] at G
  generalize getC s = v at *
  have M := hide (fun W => must_no 130 W)
  clear hs h2
  go_enter Try.func77, Try.ntmps77
  go_wp2_with fail
  refine (G.out _).mono ?_
  rintro e w' ⟨rfl, rfl⟩
  go_wp2_with fail
  refine (M.out _).mono ?_
  rintro e w' ⟨rfl, rfl⟩
  exact ⟨rfl, rfl, Fr.refl _ _⟩
/-! ### Emit -/
def okB (l : List Opt) : Bool := l.all (fun x => decide (x.2.size ≤ 65535))
theorem okB_iff {l : List Opt} : okB l = true ↔ okO l := by unfold okB okO; simp
def emE (l : List Opt) : Int := if 128 < l.length then 6 else if okB l = true then 0 else 130
def emS (l : List Opt) : List UInt8 := if emE l = 0 then emitL l else []
def EmitP (l : List Opt) (w : World) (e : Ending) (w2 : World) : Prop := Gives (.tuple #[St (emS l), .int .i64 (emE l)]) w e w2
/-- the parts that Emit puts together -/
def partsE : List Opt → List ByteArray
  | [] => []
  | x :: l => bs (beL 2 x.1.toNat) :: runV x.2 :: partsE l
theorem parts_snoc (l : List Opt) (x : Opt) : partsE (l ++ [x]) = partsE l ++ [bs (beL 2 x.1.toNat), runV x.2] := by
  induction l with
  | nil => rfl
  | cons y l ih => rw [List.cons_append, partsE, ih]; rfl
theorem parts_len (l : List Opt) : (partsE l).length = l.length * 2 := by
  induction l with
  | nil => rfl
  | cons y l ih => rw [partsE, List.length_cons, List.length_cons, ih, List.length_cons]; omega
theorem run_size {s : ByteArray} (h : s.size ≤ 65535) : runO s = true ∧ lb (runV s) = beL 2 s.size ++ lb s := by
  have e : runO s = true := by unfold runO; rw [decide_eq_true_eq]; exact h
  refine ⟨e, ?_⟩
  unfold runV
  rw [if_pos e, lb_bs]
theorem parts_flat {l : List Opt} (h : okO l) : ((partsE l).map lb).flatten = emitL l := by
  induction l with
  | nil => rfl
  | cons x l ih =>
    rw [partsE, List.map_cons, List.map_cons, List.flatten_cons, List.flatten_cons, ih h.tail, lb_bs, (run_size (h x List.mem_cons_self)).2, emitL, optL, List.append_assoc, List.append_assoc, List.append_assoc]
theorem emit_len {l : List Opt} (h : okO l) : (emitL l).length ≤ l.length * 65539 := by
  induction l with
  | nil => exact Nat.le_refl _
  | cons x l ih =>
    have := h x List.mem_cons_self
    have := ih h.tail
    rw [emitL, List.length_append, optL_len, List.length_cons]
    omega
theorem em_bad {l : List Opt} {k : Nat} {x : Opt} (hl : l.length ≤ 128) (hx : l[k]? = some x) (h : ¬ x.2.size ≤ 65535) : emE l = 130 ∧ emS l = [] := by
  have e : emE l = 130 := by
    unfold emE
    rw [if_neg (by omega), if_neg]
    intro h2
    exact h (okB_iff.1 h2 x (List.mem_of_getElem? hx))
  exact ⟨e, by unfold emS; rw [e]; rfl⟩
theorem em_good {l : List Opt} (hl : l.length ≤ 128) (h : okO l) : emE l = 0 ∧ emS l = emitL l := by
  have e : emE l = 0 := by
    unfold emE
    rw [if_neg (by omega), if_pos (okB_iff.2 h)]
  exact ⟨e, by unfold emS; rw [e]; rfl⟩
theorem em_many {l : List Opt} (hl : 128 < l.length) : emE l = 6 ∧ emS l = [] := by
  have e : emE l = 6 := by unfold emE; rw [if_pos hl]
  exact ⟨e, by unfold emS; rw [e]; rfl⟩
theorem take_snoc1 {l : List Opt} {k : Nat} {x : Opt} (hx : l[k]? = some x) : l.take (k + 1) = l.take k ++ [x] := by
  rw [List.take_add_one, hx]; rfl
set_option maxRecDepth 100000 in
set_option maxHeartbeats 4000000 in
theorem emit_any {v : Value} {l : List Opt} (hl : l.length ≤ 9223372036854775807) (w : World) (hv : LstO v l w) :
    Calls Try.prog 13 #[v] w (EmitP l w) := by
  have HV := hide (fun W (H : Below w.heap.size w W) => hv.step H)
  obtain ⟨p, c, rfl⟩ := lstO_len hv
  by_cases h128 : 128 < l.length
  · have E := hide (em_many h128)
    have P1 : (128 : Int) < (l.length : Int) := by omega
    clear hv
    go_enter Try.func13, Try.ntmps13
    go_wp2
    go_ret2
    exact ⟨congrArg Ending.returned (tup2 (by rw [E.out.2]; rfl) (by rw [E.out.1]; rfl)), Below.refl _ _⟩
  · have P1 : ¬ (128 : Int) < (l.length : Int) := by omega
    have hlcap := (lstO_cap hv).2.1
    have S0 := hide (show OwnS w w.heap.size (.slice none 0 0) (partsE (l.take 0)) from ownS_nil _ _)
    clear hv
    go_enter Try.func13, Try.ntmps13
    go_wp2
    go_loopw [4, 14] (fun va vi wr => ∃ k : Nat, k ≤ l.length ∧ vi = .int .i64 (k : Nat) ∧ Hid (okO (l.take k)) ∧ Hid (OwnS wr w.heap.size va (partsE (l.take k))) ∧ Hid (Below w.heap.size w wr)) (fun _ vi _ => l.length - (intOf vi).toNat)
    case atStart => exact ⟨0, Nat.zero_le _, rfl, hide (fun x hx => by cases hx), S0, hide (Below.refl _ _)⟩
    case round =>
      obtain ⟨k, hk, rfl, HK, HS, HB⟩ := hrel
      clear S0
      by_cases hlt : k < l.length
      · obtain ⟨x, hx⟩ := getO_some hlt
        obtain ⟨b, o, rfl, _, x1, x2⟩ := lstO_at (HV.out _ HB.out) hx
        have kc : k ≤ c := by omega
        have RN := hide (fun W => run_any x.2 W)
        by_cases hz : x.2.size ≤ 65535
        · have OK1 := hide (show okO (l.take (k + 1)) by
            rw [take_snoc1 hx]
            exact HK.out.append (fun y hy => by rw [List.mem_singleton] at hy; subst hy; exact hz))
          have PS := hide (show partsE (l.take (k + 1)) = partsE (l.take k) ++ [bs (beL 2 x.1.toNat), runV x.2] by rw [take_snoc1 hx, parts_snoc])
          have PL := hide (show (partsE (l.take k)).length = k * 2 by rw [parts_len, List.length_take]; omega)
          have PU := hide (fun W => put16_any x.1.toNat x.1.toNat_lt W)
          rw [(run_size hz).1] at RN
          generalize partsE (l.take k) = ps at *
          generalize runV x.2 = q at *
          generalize beL 2 x.1.toNat = n at *
          have D1 := hide (HB.out.trans ((below_alloc wr (.cells #[.int .u16 (x.1.toNat : Int), .string x.2] 40)).mono HB.out.size))
          have S1 := hide (HS.out.step (below_alloc wr (.cells #[.int .u16 (x.1.toNat : Int), .string x.2] 40)))
          have X1 := hide (bx_new wr 40 #[.int .u16 (x.1.toNat : Int), .string x.2])
          clear hx HK HS hz HB
          go_wp2_with fail
          generalize wr.alloc (.cells #[.int .u16 (x.1.toNat : Int), .string x.2] 40) = w1 at *
          refine (RN.out _).mono ?_
          rintro e w2 ⟨rfl, hb2⟩
          have D2 := hide (D1.out.trans (hb2.mono D1.out.size))
          have S2 := hide (S1.out.step hb2)
          have X2 := X1.out.step hb2
          have y0 := X2.cell 0
          have y1 := X2.cell 1
          simp at y0 y1
          clear hb2 D1 S1 X1 X2 x1 x2 RN
          go_wp2_with fail
          refine (PU.out _).mono ?_
          rintro e w3 ⟨rfl, hb3⟩
          have D3 := hide (D2.out.trans (hb3.mono D2.out.size))
          have S3 := hide (S2.out.step hb3)
          clear hb3 D2 S2 y0 y1 PU
          have NW := hide (sv_new w3 [bs n, q] #[.string (bs n), .string q] 9 rfl)
          have S4 := hide (S3.out.step (below_alloc w3 (.cells #[.string (bs n), .string q] 9)))
          have D4 := hide (D3.out.trans ((below_alloc w3 (.cells #[.string (bs n), .string q] 9)).mono D3.out.size))
          go_wp2_with (at_builtin; refine wpList_append_S rfl (.tmp 26) (.tmp 31) rfl w.heap.size _ ps rfl S4.out w3.heap.size 2 (bs n) [q] rfl NW.out (by rw [PL.out]; simp; omega) D4.out.size ?_; intro v6 w6 q1 q2 q3)
          have Q1 := hide q1
          have Q3 := hide (D4.out.trans q3)
          clear q1 q2 q3 S3 S4 D3 D4 NW
          go_wp2
          go_roundw
          case rel => exact ⟨k + 1, hlt, by go_num, OK1, by rw [PS.out]; exact Q1, Q3⟩
          case measure => simp [intOf]; omega
        · have E := hide (em_bad (by omega) hx hz)
          rw [show runO x.2 = false by unfold runO; rw [decide_eq_false_iff_not]; exact hz] at RN
          generalize runV x.2 = q at *
          clear hx HK HS hz
          have D1 := hide (HB.out.trans ((below_alloc wr (.cells #[.int .u16 (x.1.toNat : Int), .string x.2] 40)).mono HB.out.size))
          go_wp2_with fail
          refine (RN.out _).mono ?_
          rintro e w2 ⟨rfl, hb2⟩
          have D2 := hide (D1.out.trans (hb2.mono D1.out.size))
          go_wp2
          go_ret2
          exact ⟨congrArg Ending.returned (tup2 (by rw [E.out.2]; rfl) (by rw [E.out.1]; rfl)), D2.out⟩
      · have : k = l.length := by omega
        subst this
        have hT : l.take l.length = l := List.take_length
        rw [hT] at HK HS
        have E := hide (em_good (by omega) HK.out)
        have JO := hide (join_S HS.out (by rw [parts_len]; omega) (by rw [parts_flat HK.out]; have := emit_len HK.out; omega))
        rw [parts_flat HK.out] at JO
        generalize emitL l = n at *
        clear HK HS hT hlt
        go_wp2_with fail
        refine JO.out.mono ?_
        rintro e w7 ⟨rfl, hb7⟩
        have D2 := hide (HB.out.trans (hb7.mono HB.out.size))
        go_wp2
        go_ret2
        exact ⟨congrArg Ending.returned (tup2 (by rw [E.out.2]; rfl) (by rw [E.out.1]; rfl)), D2.out⟩
end Go.Proofs.Ytcpldojgmboipaa
