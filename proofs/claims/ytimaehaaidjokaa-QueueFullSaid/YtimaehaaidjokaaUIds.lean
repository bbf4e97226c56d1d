/- Numbers in memory: a slice of them; of no function of the program. -/
import Derived.Test.YtimaehaaidjokaaUExam
import Derived.Test.YtimaehaaidjokaaDWhole
namespace Go.Proofs.Ytimaehaaidjokaa.Queue
open Go.RowKit

/-- The cells from a place on hold these numbers. -/
def ICells (w : World) (g o : Nat) (ls : List Nat) : Prop := ∀ j x, ls[j]? = some x → Word x ∧ w.cell? ⟨g, o + j, none⟩ = some (.int .u64 (x : Int))
/-- A slice of these numbers. -/
def IRow (w : World) (v : Value) (ls : List Nat) : Prop :=
  (ls = [] ∧ ∃ a cap, v = .slice a 0 cap ∧ cap ≤ maxLen) ∨ (ls ≠ [] ∧ ∃ g o cap, v = .slice (some ⟨g, o, none⟩) ls.length cap ∧ g < w.heap.size ∧ ls.length ≤ cap ∧ cap ≤ maxLen ∧ ICells w g o ls)
theorem ICells.below {w w' : World} {g o : Nat} {ls : List Nat} (h : ICells w g o ls) (hg : g < w.heap.size) (hb : Below w.heap.size w w') : ICells w' g o ls := fun j x hj => by
  rw [hb.cell (p := ⟨g, o + j, none⟩) hg]
  exact h j x hj
theorem IRow.below {w w' : World} {v : Value} {ls : List Nat} (h : IRow w v ls) (hb : Below w.heap.size w w') : IRow w' v ls := by
  rcases h with h | ⟨h0, g, o, cap, h1, h2, h3, h4, h5⟩
  · exact .inl h
  · exact .inr ⟨h0, g, o, cap, h1, by have := hb.size; omega, h3, h4, h5.below h2 hb⟩
theorem IRow.slice {w : World} {v : Value} {ls : List Nat} (h : IRow w v ls) : ∃ a cap, v = .slice a ls.length cap ∧ ls.length ≤ cap ∧ cap ≤ maxLen := by
  rcases h with ⟨rfl, a, cap, rfl, hm⟩ | ⟨_, g, o, cap, rfl, _, hc, hm, _⟩
  · exact ⟨_, _, rfl, Nat.zero_le _, hm⟩
  · exact ⟨_, _, rfl, hc, hm⟩
theorem IRow.cells {w : World} {a : Option Addr} {cap k n : Nat} {ls : List Nat} (h : IRow w (.slice a n cap) ls) (hk : k < ls.length) : ∃ g o, a = some ⟨g, o, none⟩ ∧ g < w.heap.size ∧ ICells w g o ls := by
  rcases h with ⟨rfl, _⟩ | ⟨_, g, o, cap', hsl, hg, _, _, hcell⟩
  · simp at hk
  · injection hsl with h1 _ _
    exact ⟨g, o, h1, hg, hcell⟩
theorem IRow.len {w : World} {v : Value} {ls : List Nat} (h : IRow w v ls) : ls.length ≤ 9223372036854775807 := by
  obtain ⟨_, cap, _, h1, h2⟩ := h.slice
  unfold maxLen at h2
  omega
end Go.Proofs.Ytimaehaaidjokaa.Queue
