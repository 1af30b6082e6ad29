/-
  The bytes of a message whose fields for names hold options: mathematics of Wire4Overload's loops. No program is named here. No condition beyond those in each theorem's own statement.
-/
import Derived.Test.YtmoklodaeicpgaaWOm
namespace Go.Proofs.Ytmoklodaeicpgaa
open Go

/-- P laid over L from place o on -/
def spl (L : List UInt8) (o : Nat) (P : List UInt8) : List UInt8 := L.take o ++ (P ++ L.drop (o + P.length))
theorem spl_nil (L : List UInt8) (o : Nat) : spl L o [] = L := by unfold spl; simp
theorem spl_len {L : List UInt8} {o : Nat} {P : List UInt8} (h : o + P.length ≤ L.length) : (spl L o P).length = L.length := by
  unfold spl
  rw [List.length_append, List.length_append, List.length_take, List.length_drop]; omega
theorem spl_set {L P : List UInt8} {o i : Nat} (h : o + P.length ≤ L.length) {x : UInt8} (hx : P[i]? = some x) : (spl L o (P.take i)).set (o + i) x = spl L o (P.take (i + 1)) := by
  have hi : i < P.length := (List.getElem?_eq_some_iff.1 hx).1
  have e1 : (P.take i).length = i := by rw [List.length_take]; omega
  have e2 : (P.take (i + 1)).length = i + 1 := by rw [List.length_take]; omega
  have e3 : (L.take o).length = o := by rw [List.length_take]; omega
  unfold spl
  rw [e1, e2, List.set_append_right _ _ (by omega), e3, Nat.add_sub_cancel_left, List.set_append_right _ _ (by omega), e1, Nat.sub_self, List.drop_eq_getElem_cons (show o + i < L.length by omega), List.set_cons_zero, List.take_add_one, hx]
  simp [Nat.add_assoc]
/-- bytes with bytes 0 behind them, n in all -/
def padN (a : List UInt8) (n : Nat) : List UInt8 := a ++ List.replicate (n - a.length) 0
theorem padN_len {a : List UInt8} {n : Nat} (h : a.length ≤ n) : (padN a n).length = n := by unfold padN; rw [List.length_append, List.length_replicate]; omega
theorem padN_in {a : List UInt8} {n i : Nat} (h : i < a.length) : (padN a n)[i]? = a[i]? := by unfold padN; rw [List.getElem?_append_left h]
theorem padN_out {a : List UInt8} {n i : Nat} (h1 : a.length ≤ i) (h2 : i < n) : (padN a n)[i]? = some 0 := by
  unfold padN
  rw [List.getElem?_append_right h1, List.getElem?_replicate, if_pos (by omega)]
theorem pad_in {L : List UInt8} {n : Nat} {fa : ByteArray} (h : bs L = fa) : (∀ i (hi : i < fa.size), (padN L n)[i]? = some fa[i]) ∧ ∀ i, fa.size ≤ i → i < n → (padN L n)[i]? = some 0 := by
  subst h
  refine ⟨fun i hi => ?_, fun i h1 h2 => padN_out (by rw [bs_size] at h1; exact h1) h2⟩
  rw [bs_size] at hi
  rw [padN_in hi, List.getElem?_eq_getElem hi]
  rfl
/-- the bytes ahead of the fields for names -/
def preH (m : Hd) : List UInt8 := bytesF (m.fs.take 11) ++ lb m.hard
theorem bytes_pre (m : Hd) : bytesF m.fs = preH m ++ (lb m.name ++ lb m.file) := by
  unfold preH bytesF Hd.fs
  simp [Fv.bytes]
theorem pre_len {m : Hd} (h : soundH m = true) : (preH m).length = 44 := by
  have h1 := bytesF_size h
  unfold soundH at h
  rw [decide_eq_true_eq] at h
  rw [bytes_pre, List.length_append, List.length_append, lb_len, lb_len, h.2.1, h.2.2] at h1
  omega
theorem take_240 {m : Ms} (h : encE m = 0) : (encS m).take 240 = preH m.1 ++ (lb m.1.name ++ (lb m.1.file ++ cookieL)) ∧ soundH m.1 = true ∧ 240 ≤ (encS m).length := by
  obtain ⟨h1, h2, h3, h4⟩ := encE_zero h
  have he : encS m = encL m := by unfold encS; rw [if_pos h]
  have hl := bytesF_size h1
  rw [he]
  refine ⟨?_, h1, ?_⟩
  · unfold encL
    rw [← List.append_assoc, List.take_left' (by rw [List.length_append, hl]; rfl), bytes_pre]
    simp only [List.append_assoc]
  · unfold encL
    rw [List.length_append, List.length_append, hl]
    show 240 ≤ 236 + (4 + (emitS m.2).length)
    omega
theorem spl_file {p a b c P : List UInt8} (hp : p.length = 44) (ha : a.length = 64) (hb : b.length = 128) (hP : P.length = 128) : spl (p ++ (a ++ (b ++ c))) 108 P = p ++ (a ++ (P ++ c)) := by
  have e : p ++ (a ++ (b ++ c)) = (p ++ a) ++ (b ++ c) := by simp only [List.append_assoc]
  have l : (p ++ a).length = 108 := by rw [List.length_append]; omega
  unfold spl
  rw [hP, e, List.take_left' l, show 108 + 128 = (p ++ a).length + 128 by rw [l], ← List.drop_drop, List.drop_left, List.drop_left' hb]
  simp only [List.append_assoc]
theorem spl_name {p a b P : List UInt8} (hp : p.length = 44) (ha : a.length = 64) (hP : P.length = 64) : spl (p ++ (a ++ b)) 44 P = p ++ (P ++ b) := by
  unfold spl
  rw [hP, List.take_left' hp, show 44 + 64 = p.length + 64 by omega, ← List.drop_drop, List.drop_left, List.drop_left' ha]
def od (k : Nat) : Bool := decide (k = 1 ∨ k = 3)
def ge (k : Nat) : Bool := decide (k = 2 ∨ k = 3)
def T1 (T : List UInt8) (k : Nat) (PA : List UInt8) : List UInt8 := if od k = true then spl T 108 PA else T
def T2 (T : List UInt8) (k : Nat) (PB : List UInt8) : List UInt8 := if ge k = true then spl T 44 PB else T
def W1 (l F : List Opt) (k : Nat) : List UInt8 := if od k = true then emitB l ++ emitB F else emitB l
def W2 (w : List UInt8) (N : List Opt) (k : Nat) : List UInt8 := if ge k = true then w ++ emitB N else w
def hdK (m : Hd) (k : Nat) (PA PB : List UInt8) : Hd := { m with file := if od k = true then bs PA else m.file, name := if ge k = true then bs PB else m.name }
theorem k_cases {k : Nat} (h1 : 1 ≤ k) (h2 : k ≤ 3) : k = 1 ∨ k = 2 ∨ k = 3 := by omega
theorem T_hd {m : Ms} (h : encE m = 0) {k : Nat} (h1 : 1 ≤ k) (h2 : k ≤ 3) {PA PB : List UInt8} (hA : PA.length = 128) (hB : PB.length = 64) :
    T2 (T1 ((encS m).take 240) k PA) k PB = bytesF (hdK m.1 k PA PB).fs ++ cookieL ∧ soundH (hdK m.1 k PA PB) = true := by
  obtain ⟨e, hs, _⟩ := take_240 h
  have hp := pre_len hs
  have hs2 := hs
  unfold soundH at hs2
  rw [decide_eq_true_eq] at hs2
  obtain ⟨g1, g2, g3⟩ := hs2
  have la : (lb m.1.name).length = 64 := by rw [lb_len, g2]
  have lf : (lb m.1.file).length = 128 := by rw [lb_len, g3]
  have sA : (bs PA).size = 128 := by rw [bs_size, hA]
  have sB : (bs PB).size = 64 := by rw [bs_size, hB]
  rw [e, bytes_pre]
  rcases k_cases h1 h2 with rfl | rfl | rfl
  · refine ⟨?_, by unfold soundH; rw [decide_eq_true_eq]; exact ⟨g1, g2, sA⟩⟩
    show spl (preH m.1 ++ (lb m.1.name ++ (lb m.1.file ++ cookieL))) 108 PA = (preH m.1 ++ (lb m.1.name ++ lb (bs PA))) ++ cookieL
    rw [spl_file hp la lf hA, lb_bs]
    simp only [List.append_assoc]
  · refine ⟨?_, by unfold soundH; rw [decide_eq_true_eq]; exact ⟨g1, sB, g3⟩⟩
    show spl (preH m.1 ++ (lb m.1.name ++ (lb m.1.file ++ cookieL))) 44 PB = (preH m.1 ++ (lb (bs PB) ++ lb m.1.file)) ++ cookieL
    rw [spl_name hp la hB, lb_bs]
    simp only [List.append_assoc]
  · refine ⟨?_, by unfold soundH; rw [decide_eq_true_eq]; exact ⟨g1, sB, sA⟩⟩
    show spl (spl (preH m.1 ++ (lb m.1.name ++ (lb m.1.file ++ cookieL))) 108 PA) 44 PB = (preH m.1 ++ (lb (bs PB) ++ lb (bs PA))) ++ cookieL
    rw [spl_file hp la lf hA, spl_name hp la hB, lb_bs, lb_bs]
    simp only [List.append_assoc]
theorem pad_area {L : List Opt} (h : emitE L = 0) {n : Nat} : padN (emitS L) n = areaZ (L, List.replicate (n - (emitS L).length) 0) := by
  unfold padN areaZ emitS
  rw [if_pos h]
  simp
/-- what the law's Decode answers -/
theorem over_dec {m : Hd} {l F N : List Opt} (he : encE (m, l) = 0) (hF : emitE F = 0) (hN : emitE N = 0) (lF : (emitS F).length ≤ 128) (lN : (emitS N).length ≤ 64) (hl : (encS (m, l)).length ≤ 60000) {k : Nat} (h1 : 1 ≤ k) (h2 : k ≤ 3) :
    ((decR (bs (T2 (T1 ((encS (m, l)).take 240) k (padN (emitS F) 128)) k (padN (emitS N) 64) ++ (emitB l ++ [52, 1, UInt8.ofNat k, 255])))).1 = 0 ∨ (decR (bs (T2 (T1 ((encS (m, l)).take 240) k (padN (emitS F) 128)) k (padN (emitS N) 64) ++ (emitB l ++ [52, 1, UInt8.ofNat k, 255])))).1 = 6) ∧
    ((decR (bs (T2 (T1 ((encS (m, l)).take 240) k (padN (emitS F) 128)) k (padN (emitS N) 64) ++ (emitB l ++ [52, 1, UInt8.ofNat k, 255])))).1 = 0 → parseE [W2 (W1 l F k) N k] = 0 →
      (decR (bs (T2 (T1 ((encS (m, l)).take 240) k (padN (emitS F) 128)) k (padN (emitS N) 64) ++ (emitB l ++ [52, 1, UInt8.ofNat k, 255])))).2 = (headN m k, kept 52 (parseO [W2 (W1 l F k) N k]))) := by
  obtain ⟨e1, e2⟩ := T_hd he h1 h2 (padN_len lF) (padN_len lN)
  obtain ⟨_, q2, q3, _⟩ := encE_zero he
  have lS := (take_240 he).2.2
  have hEl : (emitB l).length + 241 = (encS (m, l)).length := by
    obtain ⟨p1, p2, _, _⟩ := encE_zero he
    have hx : encS (m, l) = encL (m, l) := by unfold encS; rw [if_pos he]
    rw [hx]
    unfold encL emitS
    rw [if_pos p2, List.length_append, List.length_append, List.length_append, bytesF_size p1]
    show (emitB l).length + 241 = 236 + (4 + ((emitB l).length + 1))
    omega
  have hs : lb (bs (T2 (T1 ((encS (m, l)).take 240) k (padN (emitS F) 128)) k (padN (emitS N) 64) ++ (emitB l ++ [52, 1, UInt8.ofNat k, 255]))) = bytesF (hdK m k (padN (emitS F) 128) (padN (emitS N) 64)).fs ++ (cookieL ++ (emitB l ++ [52, 1, UInt8.ofNat k, 255])) := by
    rw [lb_bs, e1]; simp only [List.append_assoc]
  have hz : (bs (T2 (T1 ((encS (m, l)).take 240) k (padN (emitS F) 128)) k (padN (emitS N) 64) ++ (emitB l ++ [52, 1, UInt8.ofNat k, 255]))).size ≤ 65507 := by
    rw [bs_size, e1, List.length_append, List.length_append, List.length_append, bytesF_size e2]
    show 236 + 4 + ((emitB l).length + 4) ≤ 65507
    omega
  have cF := codes_ok hF
  have cN := codes_ok hN
  generalize bs (T2 (T1 ((encS (m, l)).take 240) k (padN (emitS F) 128)) k (padN (emitS N) 64) ++ (emitB l ++ [52, 1, UInt8.ofNat k, 255])) = s at *
  rcases k_cases h1 h2 with rfl | rfl | rfl
  · have := over_math q2 q3 e2 (k := 1) (n := 1) (Or.inl ⟨rfl, rfl⟩) [(F, List.replicate (128 - (emitS F).length) 0)] (fun x hx => by rw [List.mem_singleton.1 hx]; exact cF) (by show [lb (bs (padN (emitS F) 128))] ++ [] = _; rw [lb_bs, pad_area hF]; rfl) rfl hs hz
    have e : emitB l ++ emitB ([(F, List.replicate (128 - (emitS F).length) (0 : UInt8))].map (·.1)).flatten = W2 (W1 l F 1) N 1 := by
      show emitB l ++ emitB (F ++ []) = emitB l ++ emitB F
      rw [List.append_nil]
    rw [e] at this
    exact this
  · have := over_math q2 q3 e2 (k := 2) (n := 2) (Or.inr (Or.inl ⟨rfl, rfl⟩)) [(N, List.replicate (64 - (emitS N).length) 0)] (fun x hx => by rw [List.mem_singleton.1 hx]; exact cN) (by show [] ++ [lb (bs (padN (emitS N) 64))] = _; rw [lb_bs, pad_area hN]; rfl) rfl hs hz
    have e : emitB l ++ emitB ([(N, List.replicate (64 - (emitS N).length) (0 : UInt8))].map (·.1)).flatten = W2 (W1 l F 2) N 2 := by
      show emitB l ++ emitB (N ++ []) = emitB l ++ emitB N
      rw [List.append_nil]
    rw [e] at this
    exact this
  · have := over_math q2 q3 e2 (k := 3) (n := 3) (Or.inr (Or.inr ⟨rfl, rfl⟩)) [(F, List.replicate (128 - (emitS F).length) 0), (N, List.replicate (64 - (emitS N).length) 0)] (fun x hx => by
        rcases List.mem_cons.1 hx with rfl | hx
        · exact cF
        · rw [List.mem_singleton.1 hx]; exact cN) (by show [lb (bs (padN (emitS F) 128))] ++ [lb (bs (padN (emitS N) 64))] = _; rw [lb_bs, lb_bs, pad_area hF, pad_area hN]; rfl) rfl hs hz
    have e : emitB l ++ emitB ([(F, List.replicate (128 - (emitS F).length) (0 : UInt8)), (N, List.replicate (64 - (emitS N).length) (0 : UInt8))].map (·.1)).flatten = W2 (W1 l F 3) N 3 := by
      show emitB l ++ emitB (F ++ (N ++ [])) = (emitB l ++ emitB F) ++ emitB N
      rw [List.append_nil]
      unfold emitB
      rw [List.flatMap_append, List.append_assoc]
    rw [e] at this
    exact this
end Go.Proofs.Ytmoklodaeicpgaa
