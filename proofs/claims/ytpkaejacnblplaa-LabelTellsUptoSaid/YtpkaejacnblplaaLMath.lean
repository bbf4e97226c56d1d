/- The plain mathematics of labels in order: keys that rise, a row sorted by insertion, keys that stand twice; no program. -/
import Derived.Test.YtpkaejacnblplaaLSmall
import Derived.Test.YtpkaejacnblplaaLShelf
namespace Go.Proofs.Ytpkaejacnblplaa.Label
open Go.RowKit Go.Proofs.Ytpkaejacnblplaa.Word Go.Sort

theorem less_irrefl (x : ByteArray) : less x x = false := by
  unfold less; rw [bytesLess_eq]; simp [List.lt_irrefl]
theorem less_swo : SWO (fun x y : Pr => less x.1 y.1) where
  irrefl x := less_irrefl _
  trans x y z h1 h2 := by
    unfold less at *; rw [bytesLess_eq, decide_eq_true_eq] at *
    exact List.lt_trans h1 h2
  ntrans x y z h1 h2 := by
    unfold less at *; rw [bytesLess_eq, decide_eq_false_iff_not, List.not_lt] at *
    exact List.le_trans h2 h1
theorem less_total {x y : ByteArray} (h1 : less y x = false) (h2 : (x.toList == y.toList) = false) : less x y = true := by
  unfold less at *; rw [bytesLess_eq, decide_eq_false_iff_not, List.not_lt] at h1; rw [bytesLess_eq, decide_eq_true_eq]
  rcases List.le_iff_lt_or_eq.1 h1 with h | h
  · exact h
  · rw [h] at h2; simp at h2
theorem less_ne {x y : ByteArray} (h : less x y = true) : (y.toList == x.toList) = false := by
  rw [beq_eq_false_iff_ne]
  intro e
  unfold less at h
  rw [e, bytesLess_eq] at h
  simp [List.lt_irrefl] at h

/-- The keys rise. -/
def Rises (ls : List Pr) : Prop := ∀ j x y, ls[j]? = some x → ls[j + 1]? = some y → less x.1 y.1 = true
/-- A key stands twice, one behind the other. -/
def Dup (ls : List Pr) : Prop := ∃ j x y, ls[j]? = some x ∧ ls[j + 1]? = some y ∧ (y.1.toList == x.1.toList) = true

def cf (x y : Pr) : Int := cmpK x.1 y.1
theorem ltOf_cf : ltOf cf = fun x y : Pr => less x.1 y.1 := by
  funext x y
  unfold ltOf cf cmpK
  cases h : less x.1 y.1
  · rw [if_neg (by simp)]; split <;> simp
  · simp

theorem get_bang {d : Array Pr} {j : Nat} {x : Pr} (h : d.toList[j]? = some x) : d[j]! = x := by
  rw [Array.getElem?_toList] at h
  rw [getElem!_def, h]

theorem outer_rises (d : Array Pr) (h : Rises d.toList) : ∀ (n i : Nat), d.size - i = n → insOuter (ltOf cf) 0 d.size i d = d
  | 0, i, hn => insOuter_stop _ _ _ _ _ (by omega)
  | n + 1, i, hn => by
    rw [insOuter_go _ _ _ _ _ (by omega), insInner_stop, outer_rises d h n (i + 1) (by omega)]
    cases i with
    | zero => exact .inl (Nat.le_refl _)
    | succ i =>
      right
      obtain ⟨x, h1⟩ : ∃ x, d.toList[i]? = some x := ⟨_, List.getElem?_eq_getElem (by simp; omega)⟩
      obtain ⟨y, h2⟩ : ∃ y, d.toList[i + 1]? = some y := ⟨_, List.getElem?_eq_getElem (by simp; omega)⟩
      rw [get_bang h2, Nat.add_sub_cancel, get_bang h1, ltOf_cf]
      have := h i _ _ h1 h2
      cases hc : less y.1 x.1
      · exact hc
      · have := less_swo.trans x y x this hc
        rw [less_swo.irrefl] at this
        cases this
/-- What insertion leaves: of the same length; of rising keys the same; if no key stands twice, rising keys. -/
theorem sorted_is (d : Array Pr) : ∃ ls : List Pr, (Sort.insertionSort (ltOf cf) d 0 d.size) = ls.toArray ∧ ls.length = d.size ∧ (Rises d.toList → ls = d.toList) ∧ (¬ Dup ls → Rises ls) := by
  have hS : SWO (ltOf cf) := by rw [ltOf_cf]; exact less_swo
  have h := insertionSort_holds (lt := ltOf cf) hS d 0 d.size (Nat.zero_le _) (Nat.le_refl _)
  refine ⟨(Sort.insertionSort (ltOf cf) d 0 d.size).toList, by simp, by rw [Array.length_toList]; exact h.1.1, fun hr => ?_, fun hd j x y hx hy => ?_⟩
  · unfold Sort.insertionSort
    rw [outer_rises d hr _ _ rfl]
  · have hj : j + 1 < d.size := by
      have := (List.getElem?_eq_some_iff.1 hy).1
      rw [Array.length_toList, h.1.1] at this
      exact this
    have h1 := h.2 j (j + 1) (Nat.zero_le _) (by omega) hj
    rw [get_bang hx, get_bang hy, ltOf_cf] at h1
    refine less_total h1 ?_
    rw [Bool.eq_false_iff]
    intro he
    exact hd ⟨j, x, y, hx, hy, by rw [beq_iff_eq] at he ⊢; exact he.symm⟩
theorem rises_nodup {ls : List Pr} (h : Rises ls) : ¬ Dup ls := by
  rintro ⟨j, x, y, hx, hy, he⟩
  rw [less_ne (h j x y hx hy)] at he
  cases he
end Go.Proofs.Ytpkaejacnblplaa.Label
