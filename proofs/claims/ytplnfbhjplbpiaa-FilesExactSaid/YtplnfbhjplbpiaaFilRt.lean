/-
  The contract of the law's 'right': both disks answer the same, and are the same behind it. Conditions: an int is one of 64 bits, a string is no longer than an int, fewer than 2^62 operations have been answered OK.
-/
import Derived.Test.YtplnfbhjplbpiaaFilDu
import Derived.Deep.RegionHeld3
namespace Go.Proofs.Ytplnfbhjplbpiaa
open Go.RowKit Go.Maps

variable {v w w' w1 w2 : World} {d e : Nat} {s s' t t' : Dk} {O1 Q1 O Q : Nat → Prop}
/-- a box that holds an operation -/
def BxO (b : Nat) (o : Op6) (W : World) : Prop := W.heap[b]? = some (.cells (opC o) 29 (0, 0))
theorem box_all {b : Nat} {kind on n keep : Int} {name data : Nm} {W : World} (h : BxO b ⟨kind, on, name, data, n, keep⟩ W) :
    BxO b ⟨kind, on, name, data, n, keep⟩ W ∧ W.cell? ⟨b, 0, none⟩ = some (.int .i64 kind) ∧ W.cell? ⟨b, 1, none⟩ = some (.int .i64 on) ∧ W.cell? ⟨b, 2, none⟩ = some (St name) ∧ W.cell? ⟨b, 3, none⟩ = some (St data) ∧ W.cell? ⟨b, 4, none⟩ = some (.int .i64 n) ∧ W.cell? ⟨b, 5, none⟩ = some (.int .i64 keep) :=
  ⟨h, op_cells h⟩
theorem BxO.no {b : Nat} {o : Op6} {W W2 : World} (h : BxO b o W) (F : Fr No W W2) : BxO b o W2 := F.keep h (fun e => e)
theorem okO_of {kind on n keep : Int} {name data : Nm} (h : okO ⟨kind, on, name, data, n, keep⟩) : name.length ≤ maxLen ∧ data.length ≤ maxLen ∧ I64 n ∧ I64 keep := ⟨h.2.2.1, h.2.2.2.1, h.2.2.2.2.1, h.2.2.2.2.2⟩
/-- the disk behind a call of a script -/
def stepD (s : Dk) (o : Op6) : Dk :=
  if o.kind = 1 then (appendD s o.name o.data).2 else if o.kind = 2 then (syncD s o.name).2 else if o.kind = 3 then (cutD s o.name o.n).2 else if o.kind = 4 then (renameD s o.name o.data).2 else if o.kind = 5 then (deleteD s o.name).2
  else if o.kind = 7 then armD s o.n o.keep else if o.kind = 8 then offC s o.keep else if o.kind = 9 then onD s else s
set_option maxRecDepth 100000 in
set_option maxHeartbeats 2000000 in
theorem right_1 (H : Duo v O1 Q1 w d e s s) (hst : s.steps < 4611686018427387904) {on n keep : Int} {name data : Nm} (ho : okO ⟨1, on, name, data, n, keep⟩) : Calls Try.prog 10 #[Pt d, Pt e, opV ⟨1, on, name, data, n, keep⟩] w (DA v O1 Q1 d e (.bool true) (appendD s name data).2 (appendD s name data).2) := by
  obtain ⟨hn, hd, hi, hk⟩ := okO_of ho
  obtain ⟨O, Q, hO, hQ, hB, hBack⟩ := H.base
  have F1 : Fr No w (w.alloc (.cells (opC ⟨1, on, name, data, n, keep⟩) 29)) := Fr.alloc _ _
  have B1 : BxO w.heap.size ⟨1, on, name, data, n, keep⟩ (w.alloc (.cells (opC ⟨1, on, name, data, n, keep⟩) 29)) := alloc_new _ _
  have H1 := hB _ F1
  have KB := hide (show ∀ W, Fr (fun i => O i ∨ Q i) (w.alloc (.cells (opC ⟨1, on, name, data, n, keep⟩) 29)) W → BxO w.heap.size ⟨1, on, name, data, n, keep⟩ W from fun W F => F.keep B1 (fun e => by
    rcases e with e | e
    · have := hO _ e; omega
    · have := hQ _ e; omega))
  have BK := hide (hBack (w.alloc (.cells (opC ⟨1, on, name, data, n, keep⟩) 29)))
  have F1 := hide F1
  clear hB hBack hO hQ ho H
  go_enter Try.func10, Try.ntmps10
  go_wp2_with fail
  generalize w.alloc (.cells (opC ⟨1, on, name, data, n, keep⟩) 29) = w1 at *
  generalize hb : w.heap.size = b at *
  clear hb
  cases hr : appendD s name data with
  | mk c s2 =>
  have HR := hide hr
  clear hr
  obtain ⟨_, y0, y1, y2, y3, y4, y5⟩ := box_all B1
  go_region_held3 (fun W => BxO b ⟨1, on, name, data, n, keep⟩ W ∧ W.cell? ⟨b, 0, none⟩ = some (.int .i64 1) ∧ W.cell? ⟨b, 1, none⟩ = some (.int .i64 on) ∧ W.cell? ⟨b, 2, none⟩ = some (St name) ∧ W.cell? ⟨b, 3, none⟩ = some (St data) ∧ W.cell? ⟨b, 4, none⟩ = some (.int .i64 n) ∧ W.cell? ⟨b, 5, none⟩ = some (.int .i64 keep))
    (first
      | exact box_all (B1.no (Fr.drew _))
      | exact box_all (KB.out _ H3.fr)
      | exact box_all (KB.out _ H2.fr))
    (first
      | (go_at_call 31; refine (duo_append2 H2 hst hn HR.out).mono ?_; rintro en w3 ⟨rfl, H3⟩)
      | (go_at_call 24; refine (duo_append1 (H1.no (Fr.drew _)) hst hn hd HR.out).mono ?_; rintro en w2 ⟨rfl, H2⟩))
  go_wp2
  go_ret
  exact ⟨rfl, by rw [HR.out]; exact BK.out _ _ _ F1.out H3⟩
set_option maxRecDepth 100000 in
set_option maxHeartbeats 2000000 in
theorem right_2 (H : Duo v O1 Q1 w d e s s) (hst : s.steps < 4611686018427387904) {on n keep : Int} {name data : Nm} (ho : okO ⟨2, on, name, data, n, keep⟩) : Calls Try.prog 10 #[Pt d, Pt e, opV ⟨2, on, name, data, n, keep⟩] w (DA v O1 Q1 d e (.bool true) (syncD s name).2 (syncD s name).2) := by
  obtain ⟨hn, hd, hi, hk⟩ := okO_of ho
  obtain ⟨O, Q, hO, hQ, hB, hBack⟩ := H.base
  have F1 : Fr No w (w.alloc (.cells (opC ⟨2, on, name, data, n, keep⟩) 29)) := Fr.alloc _ _
  have B1 : BxO w.heap.size ⟨2, on, name, data, n, keep⟩ (w.alloc (.cells (opC ⟨2, on, name, data, n, keep⟩) 29)) := alloc_new _ _
  have H1 := hB _ F1
  have KB := hide (show ∀ W, Fr (fun i => O i ∨ Q i) (w.alloc (.cells (opC ⟨2, on, name, data, n, keep⟩) 29)) W → BxO w.heap.size ⟨2, on, name, data, n, keep⟩ W from fun W F => F.keep B1 (fun e => by
    rcases e with e | e
    · have := hO _ e; omega
    · have := hQ _ e; omega))
  have BK := hide (hBack (w.alloc (.cells (opC ⟨2, on, name, data, n, keep⟩) 29)))
  have F1 := hide F1
  clear hB hBack hO hQ ho H
  go_enter Try.func10, Try.ntmps10
  go_wp2_with fail
  generalize w.alloc (.cells (opC ⟨2, on, name, data, n, keep⟩) 29) = w1 at *
  generalize hb : w.heap.size = b at *
  clear hb
  cases hr : syncD s name with
  | mk c s2 =>
  have HR := hide hr
  clear hr
  obtain ⟨_, y0, y1, y2, y3, y4, y5⟩ := box_all B1
  go_region_held3 (fun W => BxO b ⟨2, on, name, data, n, keep⟩ W ∧ W.cell? ⟨b, 0, none⟩ = some (.int .i64 2) ∧ W.cell? ⟨b, 1, none⟩ = some (.int .i64 on) ∧ W.cell? ⟨b, 2, none⟩ = some (St name) ∧ W.cell? ⟨b, 3, none⟩ = some (St data) ∧ W.cell? ⟨b, 4, none⟩ = some (.int .i64 n) ∧ W.cell? ⟨b, 5, none⟩ = some (.int .i64 keep))
    (first
      | exact box_all (B1.no (Fr.drew _))
      | exact box_all (KB.out _ H3.fr)
      | exact box_all (KB.out _ H2.fr))
    (first
      | (go_at_call 32; refine (duo_sync2 H2 hst hn HR.out).mono ?_; rintro en w3 ⟨rfl, H3⟩)
      | (go_at_call 25; refine (duo_sync1 (H1.no (Fr.drew _)) hst hn HR.out).mono ?_; rintro en w2 ⟨rfl, H2⟩))
  go_wp2
  go_ret
  exact ⟨rfl, by rw [HR.out]; exact BK.out _ _ _ F1.out H3⟩
set_option maxRecDepth 100000 in
set_option maxHeartbeats 2000000 in
theorem right_3 (H : Duo v O1 Q1 w d e s s) (hst : s.steps < 4611686018427387904) {on n keep : Int} {name data : Nm} (ho : okO ⟨3, on, name, data, n, keep⟩) : Calls Try.prog 10 #[Pt d, Pt e, opV ⟨3, on, name, data, n, keep⟩] w (DA v O1 Q1 d e (.bool true) (cutD s name n).2 (cutD s name n).2) := by
  obtain ⟨hn, hd, hi, hk⟩ := okO_of ho
  obtain ⟨O, Q, hO, hQ, hB, hBack⟩ := H.base
  have F1 : Fr No w (w.alloc (.cells (opC ⟨3, on, name, data, n, keep⟩) 29)) := Fr.alloc _ _
  have B1 : BxO w.heap.size ⟨3, on, name, data, n, keep⟩ (w.alloc (.cells (opC ⟨3, on, name, data, n, keep⟩) 29)) := alloc_new _ _
  have H1 := hB _ F1
  have KB := hide (show ∀ W, Fr (fun i => O i ∨ Q i) (w.alloc (.cells (opC ⟨3, on, name, data, n, keep⟩) 29)) W → BxO w.heap.size ⟨3, on, name, data, n, keep⟩ W from fun W F => F.keep B1 (fun e => by
    rcases e with e | e
    · have := hO _ e; omega
    · have := hQ _ e; omega))
  have BK := hide (hBack (w.alloc (.cells (opC ⟨3, on, name, data, n, keep⟩) 29)))
  have F1 := hide F1
  clear hB hBack hO hQ ho H
  go_enter Try.func10, Try.ntmps10
  go_wp2_with fail
  generalize w.alloc (.cells (opC ⟨3, on, name, data, n, keep⟩) 29) = w1 at *
  generalize hb : w.heap.size = b at *
  clear hb
  cases hr : cutD s name n with
  | mk c s2 =>
  have HR := hide hr
  clear hr
  obtain ⟨_, y0, y1, y2, y3, y4, y5⟩ := box_all B1
  go_region_held3 (fun W => BxO b ⟨3, on, name, data, n, keep⟩ W ∧ W.cell? ⟨b, 0, none⟩ = some (.int .i64 3) ∧ W.cell? ⟨b, 1, none⟩ = some (.int .i64 on) ∧ W.cell? ⟨b, 2, none⟩ = some (St name) ∧ W.cell? ⟨b, 3, none⟩ = some (St data) ∧ W.cell? ⟨b, 4, none⟩ = some (.int .i64 n) ∧ W.cell? ⟨b, 5, none⟩ = some (.int .i64 keep))
    (first
      | exact box_all (B1.no (Fr.drew _))
      | exact box_all (KB.out _ H3.fr)
      | exact box_all (KB.out _ H2.fr))
    (first
      | (go_at_call 34; refine (duo_cut2 H2 hst hn n HR.out).mono ?_; rintro en w3 ⟨rfl, H3⟩)
      | (go_at_call 33; refine (duo_cut1 (H1.no (Fr.drew _)) hst hn n HR.out).mono ?_; rintro en w2 ⟨rfl, H2⟩))
  go_wp2
  go_ret
  exact ⟨rfl, by rw [HR.out]; exact BK.out _ _ _ F1.out H3⟩
set_option maxRecDepth 100000 in
set_option maxHeartbeats 2000000 in
theorem right_4 (H : Duo v O1 Q1 w d e s s) (hst : s.steps < 4611686018427387904) {on n keep : Int} {name data : Nm} (ho : okO ⟨4, on, name, data, n, keep⟩) : Calls Try.prog 10 #[Pt d, Pt e, opV ⟨4, on, name, data, n, keep⟩] w (DA v O1 Q1 d e (.bool true) (renameD s name data).2 (renameD s name data).2) := by
  obtain ⟨hn, hd, hi, hk⟩ := okO_of ho
  obtain ⟨O, Q, hO, hQ, hB, hBack⟩ := H.base
  have F1 : Fr No w (w.alloc (.cells (opC ⟨4, on, name, data, n, keep⟩) 29)) := Fr.alloc _ _
  have B1 : BxO w.heap.size ⟨4, on, name, data, n, keep⟩ (w.alloc (.cells (opC ⟨4, on, name, data, n, keep⟩) 29)) := alloc_new _ _
  have H1 := hB _ F1
  have KB := hide (show ∀ W, Fr (fun i => O i ∨ Q i) (w.alloc (.cells (opC ⟨4, on, name, data, n, keep⟩) 29)) W → BxO w.heap.size ⟨4, on, name, data, n, keep⟩ W from fun W F => F.keep B1 (fun e => by
    rcases e with e | e
    · have := hO _ e; omega
    · have := hQ _ e; omega))
  have BK := hide (hBack (w.alloc (.cells (opC ⟨4, on, name, data, n, keep⟩) 29)))
  have F1 := hide F1
  clear hB hBack hO hQ ho H
  go_enter Try.func10, Try.ntmps10
  go_wp2_with fail
  generalize w.alloc (.cells (opC ⟨4, on, name, data, n, keep⟩) 29) = w1 at *
  generalize hb : w.heap.size = b at *
  clear hb
  cases hr : renameD s name data with
  | mk c s2 =>
  have HR := hide hr
  clear hr
  obtain ⟨_, y0, y1, y2, y3, y4, y5⟩ := box_all B1
  go_region_held3 (fun W => BxO b ⟨4, on, name, data, n, keep⟩ W ∧ W.cell? ⟨b, 0, none⟩ = some (.int .i64 4) ∧ W.cell? ⟨b, 1, none⟩ = some (.int .i64 on) ∧ W.cell? ⟨b, 2, none⟩ = some (St name) ∧ W.cell? ⟨b, 3, none⟩ = some (St data) ∧ W.cell? ⟨b, 4, none⟩ = some (.int .i64 n) ∧ W.cell? ⟨b, 5, none⟩ = some (.int .i64 keep))
    (first
      | exact box_all (B1.no (Fr.drew _))
      | exact box_all (KB.out _ H3.fr)
      | exact box_all (KB.out _ H2.fr))
    (first
      | (go_at_call 35; refine (duo_rename2 H2 hst hn hd HR.out).mono ?_; rintro en w3 ⟨rfl, H3⟩)
      | (go_at_call 29; refine (duo_rename1 (H1.no (Fr.drew _)) hst hn hd HR.out).mono ?_; rintro en w2 ⟨rfl, H2⟩))
  go_wp2
  go_ret
  exact ⟨rfl, by rw [HR.out]; exact BK.out _ _ _ F1.out H3⟩
set_option maxRecDepth 100000 in
set_option maxHeartbeats 2000000 in
theorem right_5 (H : Duo v O1 Q1 w d e s s) (hst : s.steps < 4611686018427387904) {on n keep : Int} {name data : Nm} (ho : okO ⟨5, on, name, data, n, keep⟩) : Calls Try.prog 10 #[Pt d, Pt e, opV ⟨5, on, name, data, n, keep⟩] w (DA v O1 Q1 d e (.bool true) (deleteD s name).2 (deleteD s name).2) := by
  obtain ⟨hn, hd, hi, hk⟩ := okO_of ho
  obtain ⟨O, Q, hO, hQ, hB, hBack⟩ := H.base
  have F1 : Fr No w (w.alloc (.cells (opC ⟨5, on, name, data, n, keep⟩) 29)) := Fr.alloc _ _
  have B1 : BxO w.heap.size ⟨5, on, name, data, n, keep⟩ (w.alloc (.cells (opC ⟨5, on, name, data, n, keep⟩) 29)) := alloc_new _ _
  have H1 := hB _ F1
  have KB := hide (show ∀ W, Fr (fun i => O i ∨ Q i) (w.alloc (.cells (opC ⟨5, on, name, data, n, keep⟩) 29)) W → BxO w.heap.size ⟨5, on, name, data, n, keep⟩ W from fun W F => F.keep B1 (fun e => by
    rcases e with e | e
    · have := hO _ e; omega
    · have := hQ _ e; omega))
  have BK := hide (hBack (w.alloc (.cells (opC ⟨5, on, name, data, n, keep⟩) 29)))
  have F1 := hide F1
  clear hB hBack hO hQ ho H
  go_enter Try.func10, Try.ntmps10
  go_wp2_with fail
  generalize w.alloc (.cells (opC ⟨5, on, name, data, n, keep⟩) 29) = w1 at *
  generalize hb : w.heap.size = b at *
  clear hb
  cases hr : deleteD s name with
  | mk c s2 =>
  have HR := hide hr
  clear hr
  obtain ⟨_, y0, y1, y2, y3, y4, y5⟩ := box_all B1
  go_region_held3 (fun W => BxO b ⟨5, on, name, data, n, keep⟩ W ∧ W.cell? ⟨b, 0, none⟩ = some (.int .i64 5) ∧ W.cell? ⟨b, 1, none⟩ = some (.int .i64 on) ∧ W.cell? ⟨b, 2, none⟩ = some (St name) ∧ W.cell? ⟨b, 3, none⟩ = some (St data) ∧ W.cell? ⟨b, 4, none⟩ = some (.int .i64 n) ∧ W.cell? ⟨b, 5, none⟩ = some (.int .i64 keep))
    (first
      | exact box_all (B1.no (Fr.drew _))
      | exact box_all (KB.out _ H3.fr)
      | exact box_all (KB.out _ H2.fr))
    (first
      | (go_at_call 36; refine (duo_delete2 H2 hst hn HR.out).mono ?_; rintro en w3 ⟨rfl, H3⟩)
      | (go_at_call 30; refine (duo_delete1 (H1.no (Fr.drew _)) hst hn HR.out).mono ?_; rintro en w2 ⟨rfl, H2⟩))
  go_wp2
  go_ret
  exact ⟨rfl, by rw [HR.out]; exact BK.out _ _ _ F1.out H3⟩
set_option maxRecDepth 100000 in
set_option maxHeartbeats 2000000 in
theorem right_6 (H : Duo v O1 Q1 w d e s s) {on n keep : Int} {name data : Nm} (ho : okO ⟨6, on, name, data, n, keep⟩) : Calls Try.prog 10 #[Pt d, Pt e, opV ⟨6, on, name, data, n, keep⟩] w (DA v O1 Q1 d e (.bool true) s s) := by
  obtain ⟨hn, hd, hi, hk⟩ := okO_of ho
  obtain ⟨O, Q, hO, hQ, hB, hBack⟩ := H.base
  have F1 : Fr No w (w.alloc (.cells (opC ⟨6, on, name, data, n, keep⟩) 29)) := Fr.alloc _ _
  have B1 : BxO w.heap.size ⟨6, on, name, data, n, keep⟩ (w.alloc (.cells (opC ⟨6, on, name, data, n, keep⟩) 29)) := alloc_new _ _
  have H1 := hB _ F1
  have KB := hide (show ∀ W, Fr (fun i => O i ∨ Q i) (w.alloc (.cells (opC ⟨6, on, name, data, n, keep⟩) 29)) W → BxO w.heap.size ⟨6, on, name, data, n, keep⟩ W from fun W F => F.keep B1 (fun e => by
    rcases e with e | e
    · have := hO _ e; omega
    · have := hQ _ e; omega))
  have BK := hide (hBack (w.alloc (.cells (opC ⟨6, on, name, data, n, keep⟩) 29)))
  have F1 := hide F1
  clear hB hBack hO hQ ho H
  go_enter Try.func10, Try.ntmps10
  go_wp2_with fail
  generalize w.alloc (.cells (opC ⟨6, on, name, data, n, keep⟩) 29) = w1 at *
  generalize hb : w.heap.size = b at *
  clear hb
  cases hr : readD s name with
  | mk u c =>
  have HR := hide hr
  clear hr
  obtain ⟨_, y0, y1, y2, y3, y4, y5⟩ := box_all B1
  go_wp2_with fail
  refine (duo_read1 H1 hn HR.out).mono ?_
  rintro en w2 ⟨rfl, H2⟩
  clear y0 y1 y2 y3 y4 y5
  obtain ⟨_, y0, y1, y2, y3, y4, y5⟩ := box_all (KB.out _ H2.fr)
  go_wp2_with fail
  refine (duo_read2 H2 hn HR.out).mono ?_
  rintro en w3 ⟨rfl, H3⟩
  clear y0 y1 y2 y3 y4 y5
  obtain ⟨_, y0, y1, y2, y3, y4, y5⟩ := box_all (KB.out _ H3.fr)
  go_wp2
  go_ret
  exact ⟨rfl, BK.out _ _ _ F1.out H3⟩
set_option maxRecDepth 100000 in
set_option maxHeartbeats 2000000 in
theorem right_7 (H : Duo v O1 Q1 w d e s s) {on n keep : Int} {name data : Nm} (ho : okO ⟨7, on, name, data, n, keep⟩) : Calls Try.prog 10 #[Pt d, Pt e, opV ⟨7, on, name, data, n, keep⟩] w (DA v O1 Q1 d e (.bool true) (armD s n keep) (armD s n keep)) := by
  obtain ⟨hn, hd, hi, hk⟩ := okO_of ho
  obtain ⟨O, Q, hO, hQ, hB, hBack⟩ := H.base
  have F1 : Fr No w (w.alloc (.cells (opC ⟨7, on, name, data, n, keep⟩) 29)) := Fr.alloc _ _
  have B1 : BxO w.heap.size ⟨7, on, name, data, n, keep⟩ (w.alloc (.cells (opC ⟨7, on, name, data, n, keep⟩) 29)) := alloc_new _ _
  have H1 := hB _ F1
  have KB := hide (show ∀ W, Fr (fun i => O i ∨ Q i) (w.alloc (.cells (opC ⟨7, on, name, data, n, keep⟩) 29)) W → BxO w.heap.size ⟨7, on, name, data, n, keep⟩ W from fun W F => F.keep B1 (fun e => by
    rcases e with e | e
    · have := hO _ e; omega
    · have := hQ _ e; omega))
  have BK := hide (hBack (w.alloc (.cells (opC ⟨7, on, name, data, n, keep⟩) 29)))
  have F1 := hide F1
  clear hB hBack hO hQ ho H
  go_enter Try.func10, Try.ntmps10
  go_wp2_with fail
  generalize w.alloc (.cells (opC ⟨7, on, name, data, n, keep⟩) 29) = w1 at *
  generalize hb : w.heap.size = b at *
  clear hb
  obtain ⟨_, y0, y1, y2, y3, y4, y5⟩ := box_all B1
  go_wp2_with fail
  refine (duo_arm1 H1 hi hk).mono ?_
  rintro en w2 ⟨rfl, H2⟩
  clear y0 y1 y2 y3 y4 y5
  obtain ⟨_, y0, y1, y2, y3, y4, y5⟩ := box_all (KB.out _ H2.fr)
  go_wp2_with fail
  refine (duo_arm2 H2 hi hk).mono ?_
  rintro en w3 ⟨rfl, H3⟩
  clear y0 y1 y2 y3 y4 y5
  obtain ⟨_, y0, y1, y2, y3, y4, y5⟩ := box_all (KB.out _ H3.fr)
  go_wp2
  go_ret
  exact ⟨rfl, BK.out _ _ _ F1.out H3⟩
set_option maxRecDepth 100000 in
set_option maxHeartbeats 2000000 in
theorem right_8 (H : Duo v O1 Q1 w d e s s) {on n keep : Int} {name data : Nm} (ho : okO ⟨8, on, name, data, n, keep⟩) : Calls Try.prog 10 #[Pt d, Pt e, opV ⟨8, on, name, data, n, keep⟩] w (DA v O1 Q1 d e (.bool true) (offC s keep) (offC s keep)) := by
  obtain ⟨hn, hd, hi, hk⟩ := okO_of ho
  obtain ⟨O, Q, hO, hQ, hB, hBack⟩ := H.base
  have F1 : Fr No w (w.alloc (.cells (opC ⟨8, on, name, data, n, keep⟩) 29)) := Fr.alloc _ _
  have B1 : BxO w.heap.size ⟨8, on, name, data, n, keep⟩ (w.alloc (.cells (opC ⟨8, on, name, data, n, keep⟩) 29)) := alloc_new _ _
  have H1 := hB _ F1
  have KB := hide (show ∀ W, Fr (fun i => O i ∨ Q i) (w.alloc (.cells (opC ⟨8, on, name, data, n, keep⟩) 29)) W → BxO w.heap.size ⟨8, on, name, data, n, keep⟩ W from fun W F => F.keep B1 (fun e => by
    rcases e with e | e
    · have := hO _ e; omega
    · have := hQ _ e; omega))
  have BK := hide (hBack (w.alloc (.cells (opC ⟨8, on, name, data, n, keep⟩) 29)))
  have F1 := hide F1
  clear hB hBack hO hQ ho H
  go_enter Try.func10, Try.ntmps10
  go_wp2_with fail
  generalize w.alloc (.cells (opC ⟨8, on, name, data, n, keep⟩) 29) = w1 at *
  generalize hb : w.heap.size = b at *
  clear hb
  obtain ⟨_, y0, y1, y2, y3, y4, y5⟩ := box_all B1
  go_wp2_with fail
  refine (duo_off1 H1 hk).mono ?_
  rintro en w2 ⟨rfl, H2⟩
  clear y0 y1 y2 y3 y4 y5
  obtain ⟨_, y0, y1, y2, y3, y4, y5⟩ := box_all (KB.out _ H2.fr)
  go_wp2_with fail
  refine (duo_off2 H2 hk).mono ?_
  rintro en w3 ⟨rfl, H3⟩
  clear y0 y1 y2 y3 y4 y5
  obtain ⟨_, y0, y1, y2, y3, y4, y5⟩ := box_all (KB.out _ H3.fr)
  go_wp2
  go_ret
  exact ⟨rfl, BK.out _ _ _ F1.out H3⟩
set_option maxRecDepth 100000 in
set_option maxHeartbeats 2000000 in
theorem right_9 (H : Duo v O1 Q1 w d e s s) {on n keep : Int} {name data : Nm} (ho : okO ⟨9, on, name, data, n, keep⟩) : Calls Try.prog 10 #[Pt d, Pt e, opV ⟨9, on, name, data, n, keep⟩] w (DA v O1 Q1 d e (.bool true) (onD s) (onD s)) := by
  obtain ⟨hn, hd, hi, hk⟩ := okO_of ho
  obtain ⟨O, Q, hO, hQ, hB, hBack⟩ := H.base
  have F1 : Fr No w (w.alloc (.cells (opC ⟨9, on, name, data, n, keep⟩) 29)) := Fr.alloc _ _
  have B1 : BxO w.heap.size ⟨9, on, name, data, n, keep⟩ (w.alloc (.cells (opC ⟨9, on, name, data, n, keep⟩) 29)) := alloc_new _ _
  have H1 := hB _ F1
  have KB := hide (show ∀ W, Fr (fun i => O i ∨ Q i) (w.alloc (.cells (opC ⟨9, on, name, data, n, keep⟩) 29)) W → BxO w.heap.size ⟨9, on, name, data, n, keep⟩ W from fun W F => F.keep B1 (fun e => by
    rcases e with e | e
    · have := hO _ e; omega
    · have := hQ _ e; omega))
  have BK := hide (hBack (w.alloc (.cells (opC ⟨9, on, name, data, n, keep⟩) 29)))
  have F1 := hide F1
  clear hB hBack hO hQ ho H
  go_enter Try.func10, Try.ntmps10
  go_wp2_with fail
  generalize w.alloc (.cells (opC ⟨9, on, name, data, n, keep⟩) 29) = w1 at *
  generalize hb : w.heap.size = b at *
  clear hb
  obtain ⟨_, y0, y1, y2, y3, y4, y5⟩ := box_all B1
  go_wp2_with fail
  refine (duo_on1 H1).mono ?_
  rintro en w2 ⟨rfl, H2⟩
  clear y0 y1 y2 y3 y4 y5
  obtain ⟨_, y0, y1, y2, y3, y4, y5⟩ := box_all (KB.out _ H2.fr)
  go_wp2_with fail
  refine (duo_on2 H2).mono ?_
  rintro en w3 ⟨rfl, H3⟩
  clear y0 y1 y2 y3 y4 y5
  obtain ⟨_, y0, y1, y2, y3, y4, y5⟩ := box_all (KB.out _ H3.fr)
  go_wp2
  go_ret
  exact ⟨rfl, BK.out _ _ _ F1.out H3⟩
set_option maxRecDepth 100000 in
set_option maxHeartbeats 2000000 in
theorem rightn_1 (on n keep : Int) (name data : Nm) (w : World) : Calls Try.prog 10 #[.pointer none, .pointer none, opV ⟨1, on, name, data, n, keep⟩] w (Tells w (.bool true)) := by
  have F1 : Fr No w (w.alloc (.cells (opC ⟨1, on, name, data, n, keep⟩) 29)) := Fr.alloc _ _
  have B1 : BxO w.heap.size ⟨1, on, name, data, n, keep⟩ (w.alloc (.cells (opC ⟨1, on, name, data, n, keep⟩) 29)) := alloc_new _ _
  go_enter Try.func10, Try.ntmps10
  go_wp2_with fail
  generalize w.alloc (.cells (opC ⟨1, on, name, data, n, keep⟩) 29) = w1 at *
  generalize w.heap.size = b at *
  obtain ⟨_, y0, y1, y2, y3, y4, y5⟩ := box_all B1
  go_region_held3 (fun W => BxO b ⟨1, on, name, data, n, keep⟩ W ∧ W.cell? ⟨b, 0, none⟩ = some (.int .i64 1) ∧ W.cell? ⟨b, 1, none⟩ = some (.int .i64 on) ∧ W.cell? ⟨b, 2, none⟩ = some (St name) ∧ W.cell? ⟨b, 3, none⟩ = some (St data) ∧ W.cell? ⟨b, 4, none⟩ = some (.int .i64 n) ∧ W.cell? ⟨b, 5, none⟩ = some (.int .i64 keep))
    (first
      | exact box_all (B1.no (Fr.drew _))
      | exact box_all ((B1.no (Fr.drew _)).no F2))
    (first
      | (go_at_call 31; refine (rappend_nil name data _).mono ?_; rintro en w3 ⟨rfl, rfl⟩)
      | (go_at_call 24; refine (append_nil name data _).mono ?_; rintro en w2 ⟨rfl, F2⟩))
  go_wp2
  go_ret
  exact ⟨rfl, (F1.andNo (Fr.drew _)).andNo F2⟩
set_option maxRecDepth 100000 in
set_option maxHeartbeats 2000000 in
theorem rightn_2 (on n keep : Int) (name data : Nm) (w : World) : Calls Try.prog 10 #[.pointer none, .pointer none, opV ⟨2, on, name, data, n, keep⟩] w (Tells w (.bool true)) := by
  have F1 : Fr No w (w.alloc (.cells (opC ⟨2, on, name, data, n, keep⟩) 29)) := Fr.alloc _ _
  have B1 : BxO w.heap.size ⟨2, on, name, data, n, keep⟩ (w.alloc (.cells (opC ⟨2, on, name, data, n, keep⟩) 29)) := alloc_new _ _
  go_enter Try.func10, Try.ntmps10
  go_wp2_with fail
  generalize w.alloc (.cells (opC ⟨2, on, name, data, n, keep⟩) 29) = w1 at *
  generalize w.heap.size = b at *
  obtain ⟨_, y0, y1, y2, y3, y4, y5⟩ := box_all B1
  go_region_held3 (fun W => BxO b ⟨2, on, name, data, n, keep⟩ W ∧ W.cell? ⟨b, 0, none⟩ = some (.int .i64 2) ∧ W.cell? ⟨b, 1, none⟩ = some (.int .i64 on) ∧ W.cell? ⟨b, 2, none⟩ = some (St name) ∧ W.cell? ⟨b, 3, none⟩ = some (St data) ∧ W.cell? ⟨b, 4, none⟩ = some (.int .i64 n) ∧ W.cell? ⟨b, 5, none⟩ = some (.int .i64 keep))
    (first
      | exact box_all (B1.no (Fr.drew _))
      | exact box_all ((B1.no (Fr.drew _)).no F2))
    (first
      | (go_at_call 32; refine (rsync_nil name _).mono ?_; rintro en w3 ⟨rfl, rfl⟩)
      | (go_at_call 25; refine (sync_nil name _).mono ?_; rintro en w2 ⟨rfl, F2⟩))
  go_wp2
  go_ret
  exact ⟨rfl, (F1.andNo (Fr.drew _)).andNo F2⟩
set_option maxRecDepth 100000 in
set_option maxHeartbeats 2000000 in
theorem rightn_3 (on n keep : Int) (name data : Nm) (w : World) : Calls Try.prog 10 #[.pointer none, .pointer none, opV ⟨3, on, name, data, n, keep⟩] w (Tells w (.bool true)) := by
  have F1 : Fr No w (w.alloc (.cells (opC ⟨3, on, name, data, n, keep⟩) 29)) := Fr.alloc _ _
  have B1 : BxO w.heap.size ⟨3, on, name, data, n, keep⟩ (w.alloc (.cells (opC ⟨3, on, name, data, n, keep⟩) 29)) := alloc_new _ _
  go_enter Try.func10, Try.ntmps10
  go_wp2_with fail
  generalize w.alloc (.cells (opC ⟨3, on, name, data, n, keep⟩) 29) = w1 at *
  generalize w.heap.size = b at *
  obtain ⟨_, y0, y1, y2, y3, y4, y5⟩ := box_all B1
  go_region_held3 (fun W => BxO b ⟨3, on, name, data, n, keep⟩ W ∧ W.cell? ⟨b, 0, none⟩ = some (.int .i64 3) ∧ W.cell? ⟨b, 1, none⟩ = some (.int .i64 on) ∧ W.cell? ⟨b, 2, none⟩ = some (St name) ∧ W.cell? ⟨b, 3, none⟩ = some (St data) ∧ W.cell? ⟨b, 4, none⟩ = some (.int .i64 n) ∧ W.cell? ⟨b, 5, none⟩ = some (.int .i64 keep))
    (first
      | exact box_all (B1.no (Fr.drew _))
      | exact box_all ((B1.no (Fr.drew _)).no F2))
    (first
      | (go_at_call 34; refine (rcut_nil name n _).mono ?_; rintro en w3 ⟨rfl, rfl⟩)
      | (go_at_call 33; refine (cut_nil name n _).mono ?_; rintro en w2 ⟨rfl, F2⟩))
  go_wp2
  go_ret
  exact ⟨rfl, (F1.andNo (Fr.drew _)).andNo F2⟩
set_option maxRecDepth 100000 in
set_option maxHeartbeats 2000000 in
theorem rightn_4 (on n keep : Int) (name data : Nm) (w : World) : Calls Try.prog 10 #[.pointer none, .pointer none, opV ⟨4, on, name, data, n, keep⟩] w (Tells w (.bool true)) := by
  have F1 : Fr No w (w.alloc (.cells (opC ⟨4, on, name, data, n, keep⟩) 29)) := Fr.alloc _ _
  have B1 : BxO w.heap.size ⟨4, on, name, data, n, keep⟩ (w.alloc (.cells (opC ⟨4, on, name, data, n, keep⟩) 29)) := alloc_new _ _
  go_enter Try.func10, Try.ntmps10
  go_wp2_with fail
  generalize w.alloc (.cells (opC ⟨4, on, name, data, n, keep⟩) 29) = w1 at *
  generalize w.heap.size = b at *
  obtain ⟨_, y0, y1, y2, y3, y4, y5⟩ := box_all B1
  go_region_held3 (fun W => BxO b ⟨4, on, name, data, n, keep⟩ W ∧ W.cell? ⟨b, 0, none⟩ = some (.int .i64 4) ∧ W.cell? ⟨b, 1, none⟩ = some (.int .i64 on) ∧ W.cell? ⟨b, 2, none⟩ = some (St name) ∧ W.cell? ⟨b, 3, none⟩ = some (St data) ∧ W.cell? ⟨b, 4, none⟩ = some (.int .i64 n) ∧ W.cell? ⟨b, 5, none⟩ = some (.int .i64 keep))
    (first
      | exact box_all (B1.no (Fr.drew _))
      | exact box_all ((B1.no (Fr.drew _)).no F2))
    (first
      | (go_at_call 35; refine (rrename_nil name data _).mono ?_; rintro en w3 ⟨rfl, rfl⟩)
      | (go_at_call 29; refine (rename_nil name data _).mono ?_; rintro en w2 ⟨rfl, F2⟩))
  go_wp2
  go_ret
  exact ⟨rfl, (F1.andNo (Fr.drew _)).andNo F2⟩
set_option maxRecDepth 100000 in
set_option maxHeartbeats 2000000 in
theorem rightn_5 (on n keep : Int) (name data : Nm) (w : World) : Calls Try.prog 10 #[.pointer none, .pointer none, opV ⟨5, on, name, data, n, keep⟩] w (Tells w (.bool true)) := by
  have F1 : Fr No w (w.alloc (.cells (opC ⟨5, on, name, data, n, keep⟩) 29)) := Fr.alloc _ _
  have B1 : BxO w.heap.size ⟨5, on, name, data, n, keep⟩ (w.alloc (.cells (opC ⟨5, on, name, data, n, keep⟩) 29)) := alloc_new _ _
  go_enter Try.func10, Try.ntmps10
  go_wp2_with fail
  generalize w.alloc (.cells (opC ⟨5, on, name, data, n, keep⟩) 29) = w1 at *
  generalize w.heap.size = b at *
  obtain ⟨_, y0, y1, y2, y3, y4, y5⟩ := box_all B1
  go_region_held3 (fun W => BxO b ⟨5, on, name, data, n, keep⟩ W ∧ W.cell? ⟨b, 0, none⟩ = some (.int .i64 5) ∧ W.cell? ⟨b, 1, none⟩ = some (.int .i64 on) ∧ W.cell? ⟨b, 2, none⟩ = some (St name) ∧ W.cell? ⟨b, 3, none⟩ = some (St data) ∧ W.cell? ⟨b, 4, none⟩ = some (.int .i64 n) ∧ W.cell? ⟨b, 5, none⟩ = some (.int .i64 keep))
    (first
      | exact box_all (B1.no (Fr.drew _))
      | exact box_all ((B1.no (Fr.drew _)).no F2))
    (first
      | (go_at_call 36; refine (rdelete_nil name _).mono ?_; rintro en w3 ⟨rfl, rfl⟩)
      | (go_at_call 30; refine (delete_nil name _).mono ?_; rintro en w2 ⟨rfl, F2⟩))
  go_wp2
  go_ret
  exact ⟨rfl, (F1.andNo (Fr.drew _)).andNo F2⟩
set_option maxRecDepth 100000 in
set_option maxHeartbeats 2000000 in
theorem rightn_6 (on n keep : Int) (name data : Nm) (w : World) : Calls Try.prog 10 #[.pointer none, .pointer none, opV ⟨6, on, name, data, n, keep⟩] w (Tells w (.bool true)) := by
  have F1 : Fr No w (w.alloc (.cells (opC ⟨6, on, name, data, n, keep⟩) 29)) := Fr.alloc _ _
  have B1 : BxO w.heap.size ⟨6, on, name, data, n, keep⟩ (w.alloc (.cells (opC ⟨6, on, name, data, n, keep⟩) 29)) := alloc_new _ _
  go_enter Try.func10, Try.ntmps10
  go_wp2_with fail
  generalize w.alloc (.cells (opC ⟨6, on, name, data, n, keep⟩) 29) = w1 at *
  generalize w.heap.size = b at *
  obtain ⟨_, y0, y1, y2, y3, y4, y5⟩ := box_all B1
  go_wp2_with fail
  refine (read_nil name _).mono ?_
  rintro en w2 ⟨rfl, F2⟩
  clear y0 y1 y2 y3 y4 y5
  obtain ⟨_, y0, y1, y2, y3, y4, y5⟩ := box_all (B1.no F2)
  go_wp2_with fail
  refine (rread_nil name _).mono ?_
  rintro en w3 ⟨rfl, rfl⟩
  go_wp2
  go_ret
  exact ⟨rfl, (F1.andNo F2)⟩
set_option maxRecDepth 100000 in
set_option maxHeartbeats 2000000 in
theorem rightn_7 (on n keep : Int) (name data : Nm) (w : World) : Calls Try.prog 10 #[.pointer none, .pointer none, opV ⟨7, on, name, data, n, keep⟩] w (Tells w (.bool true)) := by
  have F1 : Fr No w (w.alloc (.cells (opC ⟨7, on, name, data, n, keep⟩) 29)) := Fr.alloc _ _
  have B1 : BxO w.heap.size ⟨7, on, name, data, n, keep⟩ (w.alloc (.cells (opC ⟨7, on, name, data, n, keep⟩) 29)) := alloc_new _ _
  go_enter Try.func10, Try.ntmps10
  go_wp2_with fail
  generalize w.alloc (.cells (opC ⟨7, on, name, data, n, keep⟩) 29) = w1 at *
  generalize w.heap.size = b at *
  obtain ⟨_, y0, y1, y2, y3, y4, y5⟩ := box_all B1
  go_wp2_with fail
  refine (arm_nil n keep _).mono ?_
  rintro en w3 ⟨rfl, rfl⟩
  go_wp2_with fail
  refine (rarm_nil n keep _).mono ?_
  rintro en w3 ⟨rfl, rfl⟩
  go_wp2
  go_ret
  exact ⟨rfl, F1⟩
set_option maxRecDepth 100000 in
set_option maxHeartbeats 2000000 in
theorem rightn_8 (on n keep : Int) (name data : Nm) (w : World) : Calls Try.prog 10 #[.pointer none, .pointer none, opV ⟨8, on, name, data, n, keep⟩] w (Tells w (.bool true)) := by
  have F1 : Fr No w (w.alloc (.cells (opC ⟨8, on, name, data, n, keep⟩) 29)) := Fr.alloc _ _
  have B1 : BxO w.heap.size ⟨8, on, name, data, n, keep⟩ (w.alloc (.cells (opC ⟨8, on, name, data, n, keep⟩) 29)) := alloc_new _ _
  go_enter Try.func10, Try.ntmps10
  go_wp2_with fail
  generalize w.alloc (.cells (opC ⟨8, on, name, data, n, keep⟩) 29) = w1 at *
  generalize w.heap.size = b at *
  obtain ⟨_, y0, y1, y2, y3, y4, y5⟩ := box_all B1
  go_wp2_with fail
  refine (off_nil keep _).mono ?_
  rintro en w3 ⟨rfl, rfl⟩
  go_wp2_with fail
  refine (roff_nil keep _).mono ?_
  rintro en w3 ⟨rfl, rfl⟩
  go_wp2
  go_ret
  exact ⟨rfl, F1⟩
set_option maxRecDepth 100000 in
set_option maxHeartbeats 2000000 in
theorem rightn_9 (on n keep : Int) (name data : Nm) (w : World) : Calls Try.prog 10 #[.pointer none, .pointer none, opV ⟨9, on, name, data, n, keep⟩] w (Tells w (.bool true)) := by
  have F1 : Fr No w (w.alloc (.cells (opC ⟨9, on, name, data, n, keep⟩) 29)) := Fr.alloc _ _
  have B1 : BxO w.heap.size ⟨9, on, name, data, n, keep⟩ (w.alloc (.cells (opC ⟨9, on, name, data, n, keep⟩) 29)) := alloc_new _ _
  go_enter Try.func10, Try.ntmps10
  go_wp2_with fail
  generalize w.alloc (.cells (opC ⟨9, on, name, data, n, keep⟩) 29) = w1 at *
  generalize w.heap.size = b at *
  obtain ⟨_, y0, y1, y2, y3, y4, y5⟩ := box_all B1
  go_wp2_with fail
  refine (on_nil _).mono ?_
  rintro en w3 ⟨rfl, rfl⟩
  go_wp2_with fail
  refine (ron_nil _).mono ?_
  rintro en w3 ⟨rfl, rfl⟩
  go_wp2
  go_ret
  exact ⟨rfl, F1⟩
set_option maxRecDepth 100000 in
theorem right_no {x y : Option Go.Addr} {kind : Int} (on n keep : Int) (name data : Nm) (w : World) (h1 : kind ≠ 1) (h2 : kind ≠ 2) (h3 : kind ≠ 3) (h4 : kind ≠ 4) (h5 : kind ≠ 5) (h6 : kind ≠ 6) (h7 : kind ≠ 7) (h8 : kind ≠ 8) (h9 : kind ≠ 9) :
    Calls Try.prog 10 #[.pointer x, .pointer y, opV ⟨kind, on, name, data, n, keep⟩] w (Tells w (.bool true)) := by
  go_enter Try.func10, Try.ntmps10
  go_wp2
  go_ret
  exact ⟨rfl, Fr.alloc _ _⟩
theorem right_nil (o : Op6) (w : World) : Calls Try.prog 10 #[.pointer none, .pointer none, opV o] w (Tells w (.bool true)) := by
  obtain ⟨kind, on, name, data, n, keep⟩ := o
  by_cases h1 : kind = 1
  · subst h1; exact rightn_1 on n keep name data w
  by_cases h2 : kind = 2
  · subst h2; exact rightn_2 on n keep name data w
  by_cases h3 : kind = 3
  · subst h3; exact rightn_3 on n keep name data w
  by_cases h4 : kind = 4
  · subst h4; exact rightn_4 on n keep name data w
  by_cases h5 : kind = 5
  · subst h5; exact rightn_5 on n keep name data w
  by_cases h6 : kind = 6
  · subst h6; exact rightn_6 on n keep name data w
  by_cases h7 : kind = 7
  · subst h7; exact rightn_7 on n keep name data w
  by_cases h8 : kind = 8
  · subst h8; exact rightn_8 on n keep name data w
  by_cases h9 : kind = 9
  · subst h9; exact rightn_9 on n keep name data w
  exact right_no on n keep name data w h1 h2 h3 h4 h5 h6 h7 h8 h9
theorem right_any (H : Duo v O1 Q1 w d e s s) (hst : s.steps < 4611686018427387904) {o : Op6} (ho : okO o) (hr : stepD s o = s') : Calls Try.prog 10 #[Pt d, Pt e, opV o] w (DA v O1 Q1 d e (.bool true) s' s') := by
  subst hr
  obtain ⟨kind, on, name, data, n, keep⟩ := o
  by_cases h1 : kind = 1
  · subst h1; exact right_1 H hst ho
  by_cases h2 : kind = 2
  · subst h2; exact right_2 H hst ho
  by_cases h3 : kind = 3
  · subst h3; exact right_3 H hst ho
  by_cases h4 : kind = 4
  · subst h4; exact right_4 H hst ho
  by_cases h5 : kind = 5
  · subst h5; exact right_5 H hst ho
  by_cases h6 : kind = 6
  · subst h6; exact right_6 H ho
  by_cases h7 : kind = 7
  · subst h7; exact right_7 H ho
  by_cases h8 : kind = 8
  · subst h8; exact right_8 H ho
  by_cases h9 : kind = 9
  · subst h9; exact right_9 H ho
  have E : stepD s ⟨kind, on, name, data, n, keep⟩ = s := by unfold stepD; rw [if_neg h1, if_neg h2, if_neg h3, if_neg h4, if_neg h5, if_neg h7, if_neg h8, if_neg h9]
  rw [E]
  exact (right_no on n keep name data w h1 h2 h3 h4 h5 h6 h7 h8 h9).mono (fun _ _ k => ⟨k.1, H.no k.2⟩)
end Go.Proofs.Ytplnfbhjplbpiaa
