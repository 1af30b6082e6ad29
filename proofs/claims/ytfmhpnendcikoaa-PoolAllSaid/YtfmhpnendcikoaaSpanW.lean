/-
  Contracts of the law's own small functions: small, in, same, built. Conditions: the words are words of 64 bits.
-/
import Derived.Test.YtfmhpnendcikoaaSpanD
namespace Go.Proofs.Ytfmhpnendcikoaa
open Go.RowKit Go.Joins

set_option maxHeartbeats 400000 in
theorem small_any (a b : Nat) (w : World) : Calls Try.prog 20 #[.int .u64 (a : Nat), .int .u64 (b : Nat)] w (Gives (.agg #[.int .u64 0, .int .u64 a, .int .u64 0, .int .u64 b]) w) := by
  go_enter Try.func20, Try.ntmps20
  go_wp2
  refine bodyPost_ret (v := .agg #[.int .u64 0, .int .u64 a, .int .u64 0, .int .u64 b]) (by simp [results, Try.results20, go_sem]) rfl ⟨rfl, ?_⟩
  exact below_alloc _ _

def inB (r : Rg) (a : Nat) : Bool := decide (r.1 ≤ a) && decide (a ≤ r.2)
/-- the set that the law builds: the ranges put one by one -/
def putIf (s : List Rg) (r : Rg) : List Rg := if okR r then putL s r else s
def builtL (l : List Rg) : List Rg := (l.take 200).foldl putIf []
theorem built_step {l : List Rg} {k : Nat} {x : Rg} (h : l[k]? = some x) : (l.take (k + 1)).foldl putIf [] = putIf ((l.take k).foldl putIf []) x := by
  rw [List.take_add_one, h, List.foldl_append]
  rfl
theorem putIf_good {s : List Rg} {r : Rg} (hs : Snd s) (hf : FitL s) (fr : FitR r) : Snd (putIf s r) ∧ FitL (putIf s r) ∧ (putIf s r).length ≤ s.length + 1 := by
  unfold putIf
  split
  · rename_i h
    have hr : r.1 ≤ r.2 := by simpa [okR] using h
    exact ⟨(put_spec hs hf hr).1, put_fit hf fr, put_len hs hr⟩
  · exact ⟨hs, hf, by omega⟩
theorem built_good {l : List Rg} (hf : FitL l) : ∀ k, Snd ((l.take k).foldl putIf []) ∧ FitL ((l.take k).foldl putIf []) ∧ ((l.take k).foldl putIf []).length ≤ k
  | 0 => ⟨trivial, (fun x hx => by simp at hx), by simp⟩
  | k + 1 => by
    obtain ⟨h1, h2, h3⟩ := built_good hf k
    by_cases hk : k < l.length
    · obtain ⟨x, hx⟩ := get_some hk
      rw [built_step hx]
      obtain ⟨g1, g2, g3⟩ := putIf_good h1 h2 (fit_at hf hx)
      exact ⟨g1, g2, by omega⟩
    · rw [List.take_of_length_le (by omega)] at h1 h2 h3
      rw [List.take_of_length_le (by omega)]
      exact ⟨h1, h2, by omega⟩
/-- a value that reads as a list -/
def Reads (l : List Rg) (w : World) (e : Ending) (w' : World) : Prop := ∃ v, e = .returned v ∧ Below w.heap.size w w' ∧ Lst v l w'
end Go.Proofs.Ytfmhpnendcikoaa
