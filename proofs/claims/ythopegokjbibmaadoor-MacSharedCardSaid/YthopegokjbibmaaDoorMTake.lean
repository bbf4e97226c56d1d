/- The first caveats of a row; of no function of the program. -/
import Derived.Test.YthopegokjbibmaaDoorMRow
namespace Go.Proofs.YthopegokjbibmaaDoor.Mac
open Go.RowKit

theorem Row.take {w : World} {a : Option Addr} {n cap : Nat} {ls : List Cav} (h : Row w (.slice a n cap) ls) (m : Nat) (hm : m ≤ ls.length) : Row w (.slice a m cap) (ls.take m) := by
  rcases h with ⟨rfl, a', cap', e, hc⟩ | ⟨hne, g, o, cap', e, hg, hcap, hc, hcell⟩
  · injection e with e1 e2 e3
    subst e3
    have : m = 0 := by simpa using hm
    subst this
    exact .inl ⟨rfl, _, _, rfl, hc⟩
  · injection e with e1 e2 e3
    subst e1 e2 e3
    have hl : (ls.take m).length = m := by rw [List.length_take]; omega
    by_cases hz : m = 0
    · subst hz
      exact .inl ⟨rfl, _, _, rfl, hc⟩
    · refine .inr ⟨fun hn => hz (by rw [hn] at hl; exact hl.symm), g, o, cap, by rw [hl], hg, by omega, hc, fun j x hj => ?_⟩
      rw [List.getElem?_take] at hj
      split at hj
      · exact hcell j x hj
      · simp at hj
end Go.Proofs.YthopegokjbibmaaDoor.Mac
