/-
  The contract of Decode. No condition.
-/
import Derived.Test.YtmoklodaeicpgaaWG
namespace Go.Proofs.Ytmoklodaeicpgaa
open Go.RowKit Go.Joins

theorem results_box2 {fn : Func} {p t : Tmp} (h : fn.results = #[.cell p 26, .tmp t]) (tmps : Array Value) (w : World) (r : Nat) (m : Hd) (v : Value)
    (hp : tmps.getD p undef = .pointer (some ⟨r, 0, none⟩)) {x : Value} (ht : tmps.getD t undef = x) (hg : BoxM r m v w) : (results fn tmps).run Try.prog w = .ok (.tuple #[MV m v, x]) w := by
  subst ht
  have hp' : tmps[p]?.getD undef = .pointer (some ⟨r, 0, none⟩) := by simpa using hp
  have L := run_loadVar_row (P := Try.prog) w r 26 26 (cellsM m v) (0, 0) _ hg Try.underlying26 rfl infoM
  simp [results, h, hp', asAddr, L]
/-- what Decode gives -/
def DecP (s : ByteArray) (w : World) (e : Ending) (w2 : World) : Prop := ∃ v, e = .returned (.tuple #[MV (decR s).2.1 v, .int .i64 ((decR s).1 : Nat)]) ∧ Below w.heap.size w w2 ∧ OwnO w2 w.heap.size v (decR s).2.2 ∧ v.oneCell' = true
theorem dec_zero {s : ByteArray} {n : Nat} (h : decR s = (n, zeroH, [])) {w w2 : World} (hb : Below w.heap.size w w2) : DecP s w (.returned (.tuple #[MV zeroH (.slice none 0 0), .int .i64 (n : Nat)])) w2 :=
  ⟨_, by rw [h], hb, by rw [h]; exact ownO_nil _ _, rfl⟩
theorem own_one {W : World} {base : Nat} {v : Value} {l : List Opt} (h : OwnO W base v l) : v.oneCell' = true := by
  rcases h.2 with ⟨rfl, _⟩ | ⟨g, cap, cur, rfl, _⟩ <;> rfl
theorem areas_lb (s : ByteArray) (h : Hd) (n : Nat) (x : ByteArray) (hx : lb x = (lb s).drop 240) : (areasB x h n).map lb = areasL s h n := by
  unfold areasB areasL
  rw [List.map_cons, hx, List.map_append]
  congr 2
  · split <;> rfl
  · split <;> rfl
theorem sub_rest (s : ByteArray) : lb (s.extract 240 s.size) = (lb s).drop 240 := by
  show (s.extract 240 s.size).data.toList = s.data.toList.drop 240
  rw [ByteArray.data_extract, Array.toList_extract, List.extract_eq_take_drop]
  exact List.take_of_length_le (by rw [List.length_drop, Array.length_toList]; exact Nat.le_refl _)
theorem getH_siz (s : ByteArray) (h : 240 ≤ s.size) : sizH (getH s) := ⟨sub_size (by omega), sub_size (by omega)⟩
theorem BoxM.opts {b : Nat} {h : Hd} {v v2 : Value} {W : World} (H : BoxM b h v W) : BoxM b h v2 (W.setCell ⟨b, 14, none⟩ v2) := by
  have := set_block H 14 v2
  unfold BoxM
  rw [this]
  rfl
theorem own_other {W W2 : World} {base b : Nat} {h : Hd} {u v : Value} {l : List Opt} (H : OwnO W base v l) (B : BoxM b h u W) (K : ∀ k, k ≠ b → W2.heap[k]? = W.heap[k]?) : OwnO W2 base v l := by
  refine ⟨H.1, ?_⟩
  rcases H.2 with hn | ⟨g, cap, cur, h1, h2, h3, h4⟩
  · exact Or.inl hn
  · exact Or.inr ⟨g, cap, cur, h1, h2, (K g (ne_box B h3 (by decide))).trans h3, h4⟩
theorem areas_small {s : ByteArray} (hs : s.size ≤ 65507) (n : Nat) : (areasB (s.extract 240 s.size) (getH s) n).length ≤ 9223372036854775807 ∧ ∀ x ∈ areasB (s.extract 240 s.size) (getH s) n, x.size ≤ 1152921504606846976 := by
  have hf : (getH s).file.size ≤ 65507 := by show (s.extract 108 (108 + 128)).size ≤ _; rw [ByteArray.size_extract]; omega
  have hn : (getH s).name.size ≤ 65507 := by show (s.extract 44 (44 + 64)).size ≤ _; rw [ByteArray.size_extract]; omega
  have he : (s.extract 240 s.size).size ≤ 65507 := by rw [ByteArray.size_extract]; omega
  unfold areasB
  constructor
  · rw [List.length_cons, List.length_append]
    split <;> split <;> simp
  · intro x hx
    have : x = s.extract 240 s.size ∨ x = (getH s).file ∨ x = (getH s).name := by
      rcases List.mem_cons.1 hx with h | h
      · exact Or.inl h
      · rcases List.mem_append.1 h with h | h
        · split at h
          · exact Or.inr (Or.inl (List.mem_singleton.1 h))
          · cases h
        · split at h
          · exact Or.inr (Or.inr (List.mem_singleton.1 h))
          · cases h
    rcases this with rfl | rfl | rfl <;> omega
theorem own_box {W : World} {base b k : Nat} {h : Hd} {u v x : Value} {l : List Opt} (H : OwnO W base v l) (B : BoxM b h u W) : OwnO (W.setCell ⟨b, k, none⟩ x) base v l := by
  refine ⟨H.1, ?_⟩
  rcases H.2 with hn | ⟨g, cap, cur, h1, h2, h3, h4⟩
  · exact Or.inl hn
  · exact Or.inr ⟨g, cap, cur, h1, h2, (set_other (ne_box B h3 (by decide))).trans h3, h4⟩
set_option maxRecDepth 100000 in
set_option maxHeartbeats 4000000 in
theorem decode_any (s : ByteArray) (w : World) : Calls Try.prog 16 #[.string s] w (DecP s w) := by
  have R0 := hide (box_new w zeroH (.slice none 0 0))
  have D0 := hide (below_alloc w (.cells (cellsM zeroH (.slice none 0 0)) 26))
  by_cases h1 : 65507 < s.size
  · have DR := hide (show decR s = (6, zeroH, []) by unfold decR; rw [if_pos h1])
    have Q : (65507 : Int) < (s.size : Int) := by omega
    clear h1
    go_enter Try.func16, Try.ntmps16
    go_wp2_with (refine wpList_store_box rfl (.tmp 2) (.tmp 11) rfl w.heap.size _ zeroH _ (.slice none 0 0) rfl rfl rfl R0.out ?_; intro w4 G4 B4 _)
    exact bodyPost_ret (v := .tuple #[MV zeroH (.slice none 0 0), .int .i64 6]) (results_box2 rfl _ _ w.heap.size _ _ rfl rfl G4) rfl (dec_zero DR.out (D0.out.trans (B4 _ (Nat.le_refl _))))
  have Q1 : ¬ (65507 : Int) < (s.size : Int) := by omega
  by_cases h2 : s.size < 240
  · have DR := hide (show decR s = (3, zeroH, []) by unfold decR; rw [if_neg h1, if_pos h2])
    have Q : (s.size : Int) < 240 := by omega
    clear h1 h2
    go_enter Try.func16, Try.ntmps16
    go_wp2_with (refine wpList_store_box rfl (.tmp 2) (.tmp 15) rfl w.heap.size _ zeroH _ (.slice none 0 0) rfl rfl rfl R0.out ?_; intro w4 G4 B4 _)
    exact bodyPost_ret (v := .tuple #[MV zeroH (.slice none 0 0), .int .i64 3]) (results_box2 rfl _ _ w.heap.size _ _ rfl rfl G4) rfl (dec_zero DR.out (D0.out.trans (B4 _ (Nat.le_refl _))))
  have Q2 : ¬ (s.size : Int) < 240 := by omega
  by_cases h3 : sub s 236 4 = bs cookieL
  · have CK : ((s.extract 236 240).toList == [99, 130, 83, 99]) = true := str_eq (d := s.extract 236 240) (l := [99, 130, 83, 99]) h3
    have HD := hide (fun W => head_any s (by omega) (by omega) W)
    have SL := hide (sub_rest s)
    go_enter Try.func16, Try.ntmps16
    go_wp2_with fail
    refine (HD.out _).mono ?_
    rintro e w1 ⟨rfl, hb1⟩
    have R1 := hide (R0.out.step hb1)
    have D1 := hide (D0.out.trans (hb1.mono D0.out.size))
    clear hb1 R0 D0 HD
    have N1 := hide (box_new w1 zeroH (.slice none 0 0))
    go_wp2_with (refine wpList_store_box rfl (.tmp 4) (.tmp 21) rfl w1.heap.size _ (getH s) _ (.slice none 0 0) rfl rfl rfl N1.out ?_; intro w4 G4 B4 Z4)
    have D4 := hide (D1.out.trans (((below_alloc w1 (.cells (cellsM zeroH (.slice none 0 0)) 26)).mono D1.out.size).trans (B4 _ (Nat.le_trans D1.out.size (Nat.le_refl _)))))
    have R4 := hide (show BoxM w.heap.size zeroH (.slice none 0 0) w4 from ((B4 _ (Nat.le_refl _)).block _ (lt_of_block R1.out)).trans (R1.out.step (below_alloc w1 (.cells (cellsM zeroH (.slice none 0 0)) 26))))
    have rb : w.heap.size < w1.heap.size := Nat.lt_of_lt_of_le (lt_of_block R1.out) (Nat.le_refl _)
    have TA := hide (take_areas w1.heap.size (getH s) (getH_siz s (by omega)) (s.extract 240 s.size) (by rw [ByteArray.size_extract]; omega) w4 G4)
    have b4 := lt_of_block G4
    generalize w1.heap.size = b at *
    clear B4 Z4 R1 D1 N1
    go_wp2_with fail
    refine TA.out.mono ?_
    rintro e w5 ⟨hb5, hta⟩
    have D5 := hide (D4.out.trans (hb5.mono (Nat.le_of_lt rb)))
    have R5 := hide (show BoxM w.heap.size zeroH (.slice none 0 0) w5 from (hb5.block _ rb).trans R4.out)
    clear hb5 TA R4 D4 G4
    have DR0 : decR s = (if parseE [(lb s).drop 240] ≠ 0 then (parseE [(lb s).drop 240], zeroH, []) else match ovN (parseO [(lb s).drop 240]) with
      | none => (130, zeroH, [])
      | some n => if parseE (areasL s (getH s) n) ≠ 0 then (parseE (areasL s (getH s) n), zeroH, []) else (0, headN (getH s) n, kept 52 (parseO (areasL s (getH s) n)))) := by
      unfold decR
      rw [if_neg h1, if_neg h2, if_neg (fun e => e h3)]
      rfl
    rw [SL.out] at hta
    rcases hta with ⟨he, rfl⟩ | ⟨he, hn, rfl⟩ | ⟨he, n, v, hn, rfl, ho, hb⟩
    · have DR := hide (show decR s = (parseE [(lb s).drop 240], zeroH, []) by rw [DR0, if_pos he])
      have Q : ¬ ((parseE [(lb s).drop 240] : Nat) : Int) = 0 := by omega
      clear he DR0 h1 h2 h3
      generalize parseE [(lb s).drop 240] = n at *
      go_wp2_with (refine wpList_store_box rfl (.tmp 2) (.tmp 30) rfl w.heap.size _ zeroH _ (.slice none 0 0) rfl rfl rfl R5.out ?_; intro w6 G6 B6 _)
      exact bodyPost_ret (v := .tuple #[MV zeroH (.slice none 0 0), .int .i64 (n : Nat)]) (results_box2 rfl _ _ w.heap.size _ _ rfl rfl G6) rfl (dec_zero DR.out (D5.out.trans (B6 _ (Nat.le_refl _))))
    · have DR := hide (show decR s = (130, zeroH, []) by rw [DR0, if_neg (fun e => e he), hn])
      clear he DR0 h1 h2 h3 hn
      go_wp2_with (refine wpList_store_box rfl (.tmp 2) (.tmp 30) rfl w.heap.size _ zeroH _ (.slice none 0 0) rfl rfl rfl R5.out ?_; intro w6 G6 B6 _)
      exact bodyPost_ret (v := .tuple #[MV zeroH (.slice none 0 0), .int .i64 130]) (results_box2 rfl _ _ w.heap.size _ _ rfl rfl G6) rfl (dec_zero DR.out (D5.out.trans (B6 _ (Nat.le_refl _))))
    · have DR1 := hide (show decR s = (if parseE (areasL s (getH s) n) ≠ 0 then (parseE (areasL s (getH s) n), zeroH, []) else (0, headN (getH s) n, kept 52 (parseO (areasL s (getH s) n)))) by rw [DR0, if_neg (fun e => e he), hn])
      have AL := hide (areas_lb s (getH s) n (s.extract 240 s.size) SL.out)
      have PS := hide (parse_any (ar := areasB (s.extract 240 s.size) (getH s) n) (areas_small (by omega) n).1 (areas_small (by omega) n).2 w5 ho.lst)
      have B5 := hide hb
      have b5 := lt_of_block hb
      clear he DR0 h1 h2 h3 hn hb ho
      go_wp2_with fail
      refine PS.out.mono ?_
      rintro e w6 ⟨v6, rfl, hb6, ho6⟩
      rw [AL.out] at ho6 ⊢
      have D6 := hide (D5.out.trans (hb6.mono D5.out.size))
      have R6 := hide (R5.out.step hb6)
      have B6 := hide (B5.out.step hb6)
      have O6 := hide (ownO_lst ho6)
      clear hb6 ho6 PS R5 B5 D5 AL
      by_cases he : parseE (areasL s (getH s) n) = 0
      · have DR := hide (show decR s = (0, headN (getH s) n, kept 52 (parseO (areasL s (getH s) n))) by rw [DR1.out, if_neg (fun e => e he)])
        have Q : ((parseE (areasL s (getH s) n) : Nat) : Int) = 0 := by omega
        have WO := hide (without_any 52 (v := v6) (l := parseO (areasL s (getH s) n)) (by have := parseO_len (areasL s (getH s) n); omega) w6 O6.out)
        generalize parseO (areasL s (getH s) n) = pl at *
        generalize headN (getH s) n = hn at *
        clear he DR1 O6
        go_wp2_with fail
        refine WO.out.mono ?_
        rintro e w7 ⟨v7, rfl, hb7, ho7⟩
        have D7 := hide (D6.out.trans (hb7.mono D6.out.size))
        have R7 := hide (R6.out.step hb7)
        have B7 := hide (B6.out.step hb7)
        have c14 := B7.out.at.2.2.2
        have f14 := free_at B7.out 14
        obtain ⟨p7, c7, rfl, _⟩ := lenO ho7
        have O7 := hide ho7
        generalize (kept 52 pl).length = n7 at *
        have B8 := hide (B7.out.opts (v2 := .slice p7 n7 c7))
        have R8 := hide (show BoxM w.heap.size zeroH (.slice none 0 0) (w7.setCell ⟨b, 14, none⟩ (.slice p7 n7 c7)) from (set_other (Nat.ne_of_lt rb)).trans R7.out)
        have D8 := hide (show Below w.heap.size w (w7.setCell ⟨b, 14, none⟩ (.slice p7 n7 c7)) from D7.out.setCell (Nat.le_of_lt rb) _)
        have O8 := hide (own_box O7.out B7.out (k := 14) (x := .slice p7 n7 c7))
        have D6S := hide D6.out.size
        clear hb7 ho7 D6 R6 B6 WO R7 D7 O7 B7
        go_wp2_with (first | refine wpList_load_box rfl (.tmp 4) rfl b hn (.slice p7 n7 c7) rfl B8.out ?_ | (refine wpList_store_box rfl (.tmp 2) (.tmp 44) rfl w.heap.size _ hn _ (.slice p7 n7 c7) rfl rfl rfl R8.out ?_; intro w9 G9 B9 Z9))
        refine bodyPost_ret (v := .tuple #[MV hn (.slice p7 n7 c7), .int .i64 0]) (results_box2 rfl _ _ w.heap.size _ _ rfl rfl G9) rfl ?_
        unfold DecP
        rw [DR.out]
        have W0 := D8.out.size
        exact ⟨_, rfl, D8.out.trans (B9 _ (Nat.le_refl _)), ownO_base (own_other O8.out R8.out Z9) D6S.out, rfl⟩
      · have DR := hide (show decR s = (parseE (areasL s (getH s) n), zeroH, []) by rw [DR1.out, if_pos he])
        have Q : ¬ ((parseE (areasL s (getH s) n) : Nat) : Int) = 0 := by omega
        generalize parseE (areasL s (getH s) n) = ne at *
        clear he DR1 O6
        go_wp2_with (refine wpList_store_box rfl (.tmp 2) (.tmp 39) rfl w.heap.size _ zeroH _ (.slice none 0 0) rfl rfl rfl R6.out ?_; intro w7 G7 B7 _)
        exact bodyPost_ret (v := .tuple #[MV zeroH (.slice none 0 0), .int .i64 (ne : Nat)]) (results_box2 rfl _ _ w.heap.size _ _ rfl rfl G7) rfl (dec_zero DR.out (D6.out.trans (B7 _ (Nat.le_refl _))))
  · have CK : ((s.extract 236 240).toList == [99, 130, 83, 99]) = false := str_ne (d := s.extract 236 240) (l := [99, 130, 83, 99]) h3
    have DR := hide (show decR s = (140, zeroH, []) by unfold decR; rw [if_neg h1, if_neg h2, if_pos h3])
    clear h1 h2 h3
    go_enter Try.func16, Try.ntmps16
    go_wp2_with (refine wpList_store_box rfl (.tmp 2) (.tmp 19) rfl w.heap.size _ zeroH _ (.slice none 0 0) rfl rfl rfl R0.out ?_; intro w4 G4 B4 _)
    exact bodyPost_ret (v := .tuple #[MV zeroH (.slice none 0 0), .int .i64 140]) (results_box2 rfl _ _ w.heap.size _ _ rfl rfl G4) rfl (dec_zero DR.out (D0.out.trans (B4 _ (Nat.le_refl _))))
end Go.Proofs.Ytmoklodaeicpgaa
