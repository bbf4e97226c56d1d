/- What is left of slots when those that don't match are dropped: the best of them is the best of all, at its place among them; of no program. -/
import Derived.Test.YtbefnophkaepmaaPJ2
namespace Go.Proofs.Ytbefnophkaepmaa.Pack
open Go.RowKit Go.Proofs.Ytbefnophkaepmaa.Label Go.Proofs.Ytbefnophkaepmaa.Sel Go.Proofs.Ytbefnophkaepmaa.Vec Go.Proofs.Ytbefnophkaepmaa.Texts

/-- At which place of what is kept the one of this place stands. -/
def posF {α : Type} (p : α → Bool) (l : List α) (j : Nat) : Nat := ((l.take j).filter p).length
theorem split_at {α : Type} {l : List α} {j : Nat} {s : α} (h : l[j]? = some s) : l = l.take j ++ s :: l.drop (j + 1) := by
  obtain ⟨hj, e⟩ := List.getElem?_eq_some_iff.1 h
  rw [← e, List.getElem_cons_drop]; exact (List.take_append_drop j l).symm
theorem posF_get {α : Type} {p : α → Bool} {l : List α} {j : Nat} {s : α} (h : l[j]? = some s) (hp : p s = true) : (l.filter p)[posF p l j]? = some s := by
  unfold posF
  conv => lhs; arg 1; rw [split_at h]
  rw [List.filter_append, List.filter_cons_of_pos hp]
  simp
theorem posF_set {α : Type} {p : α → Bool} {l : List α} {j : Nat} {s x : α} (h : l[j]? = some s) (hp : p s = true) (hx : p x = true) : (l.set j x).filter p = (l.filter p).set (posF p l j) x := by
  have hj := (List.getElem?_eq_some_iff.1 h).1
  have e : l.set j x = l.take j ++ x :: l.drop (j + 1) := by rw [List.set_eq_take_append_cons_drop, if_pos hj]
  rw [e, List.filter_append, List.filter_cons_of_pos hx]
  unfold posF
  conv => rhs; arg 1; rw [split_at h]
  rw [List.filter_append, List.filter_cons_of_pos hp, List.set_append_right _ _ (Nat.le_refl _)]
  simp
theorem posF_succ {α : Type} {p : α → Bool} {l : List α} {j : Nat} {s : α} (h : l[j]? = some s) : posF p l (j + 1) = posF p l j + (if p s then 1 else 0) := by
  unfold posF
  rw [List.take_add_one, h, List.filter_append, List.length_append]
  cases hp : p s <;> simp [hp]
theorem posF_all {α : Type} (p : α → Bool) (l : List α) : posF p l l.length = (l.filter p).length := by unfold posF; rw [List.take_of_length_le (Nat.le_refl _)]

/-- A slot that matches. -/
def mt (s : Sl) : Bool := s.1
/-- The best of those that are kept and of all. -/
def Both (l : List Sl) : Option (Nat × V) → Option (Nat × V) → Prop
  | none, none => True
  | some (j, w), some (j', w') => w' = w ∧ j' = posF mt l j ∧ ∃ s, l[j]? = some s ∧ s.1 = true
  | _, _ => False
theorem best_both (d : V) (l : List Sl) : ∀ k, k ≤ l.length → Both l (bestTo d l k) (bestTo d (l.filter mt) (posF mt l k))
  | 0, _ => by unfold posF; exact trivial
  | k + 1, hk => by
    obtain ⟨s, hs⟩ : ∃ s, l[k]? = some s := ⟨_, List.getElem?_eq_getElem (by omega)⟩
    have ih := best_both d l k (by omega)
    rw [bestTo_succ hs, posF_succ hs]
    cases hm : s.1 with
    | false =>
      have h1 : mt s = false := hm
      have h2 : bestStep d k s (bestTo d l k) = bestTo d l k := by unfold bestStep cand; rw [hm]; rfl
      rw [h1, h2]
      exact ih
    | true =>
      have h1 : mt s = true := hm
      rw [h1, if_pos rfl, bestTo_succ (posF_get hs h1)]
      cases hb : bestTo d l k with
      | none =>
        cases hb' : bestTo d (l.filter mt) (posF mt l k) with
        | some p => rw [hb, hb'] at ih; exact ih.elim
        | none =>
          unfold bestStep
          cases hc : cand d s with
          | false => exact trivial
          | true => exact ⟨rfl, rfl, s, hs, hm⟩
      | some p =>
        obtain ⟨j, w⟩ := p
        cases hb' : bestTo d (l.filter mt) (posF mt l k) with
        | none => rw [hb, hb'] at ih; exact ih.elim
        | some p' =>
          obtain ⟨j', w'⟩ := p'
          rw [hb, hb'] at ih
          obtain ⟨rfl, rfl, t, ht, htm⟩ := ih
          unfold bestStep
          cases hc : cand d s with
          | false => exact ⟨rfl, rfl, t, ht, htm⟩
          | true =>
            show Both l (if lt4 (sub4 s.2 d) w' = true then some (k, sub4 s.2 d) else some (j, w')) (if lt4 (sub4 s.2 d) w' = true then some (posF mt l k, sub4 s.2 d) else some (posF mt l j, w'))
            cases hl : lt4 (sub4 s.2 d) w' with
            | true => exact ⟨rfl, rfl, s, hs, hm⟩
            | false => exact ⟨rfl, rfl, t, ht, htm⟩
theorem best_all (d : V) (l : List Sl) : Both l (bestTo d l l.length) (bestTo d (l.filter mt) (l.filter mt).length) := by
  have := best_both d l l.length (Nat.le_refl _)
  rw [posF_all] at this
  exact this

/-- The slots that match, as they lie. -/
def fit1 (ts : List Tm) (s : Slot) : Bool := (seen ts s).1
def keptS (ts : List Tm) (ls : List Slot) : List Slot := ls.filter (fit1 ts)
theorem keptS_seen (ts : List Tm) (ls : List Slot) : seenAll ts (keptS ts ls) = (seenAll ts ls).filter mt := by
  unfold seenAll keptS
  rw [List.filter_map]
  rfl
theorem seen_nil (s : Slot) : seen [] s = (true, s.free) := rfl
theorem keptS_nil (ts : List Tm) (ls : List Slot) : seenAll ts (keptS ts ls) = seenAll [] (keptS ts ls) := by
  unfold seenAll
  refine List.map_congr_left fun s hs => ?_
  have h := (List.mem_filter.1 hs).2
  have : (seen ts s).1 = true := h
  show (matchS (findL s.labs) ts, s.free) = (true, s.free)
  rw [show matchS (findL s.labs) ts = true from h]
theorem posF_seen (ts : List Tm) (ls : List Slot) (j : Nat) : posF mt (seenAll ts ls) j = posF (fit1 ts) ls j := by
  unfold posF seenAll
  rw [← List.map_take, List.filter_map, List.length_map]
  rfl
/-- What the program's own search among those that are kept tells of all. -/
def BestK (ts : List Tm) (d : V) (X : List Slot) : Option (Nat × V) → Prop
  | none => bestL d (seenAll ts X) = none
  | some (i, w) => ∃ j s, bestL d (seenAll ts X) = some j ∧ X[j]? = some s ∧ fit1 ts s = true ∧ i = posF (fit1 ts) X j ∧ w = sub4 s.free d ∧ fits4 d s.free = true
theorem bestK (ts : List Tm) (d : V) (X : List Slot) : BestK ts d X (bestTo d (seenAll [] (keptS ts X)) (keptS ts X).length) := by
  have hb := best_all d (seenAll ts X)
  have hl : (keptS ts X).length = ((seenAll ts X).filter mt).length := by rw [← keptS_seen]; unfold seenAll; rw [List.length_map]
  rw [← keptS_nil, hl, keptS_seen]
  have hB := bestTo_best d (seenAll ts X) (seenAll ts X).length (Nat.le_refl _)
  unfold BestK bestL
  cases h1 : bestTo d (seenAll ts X) (seenAll ts X).length with
  | none =>
    cases h2 : bestTo d ((seenAll ts X).filter mt) ((seenAll ts X).filter mt).length with
    | none => rfl
    | some p => rw [h1, h2] at hb; exact hb.elim
  | some p =>
    obtain ⟨j, w⟩ := p
    cases h2 : bestTo d ((seenAll ts X).filter mt) ((seenAll ts X).filter mt).length with
    | none => rw [h1, h2] at hb; exact hb.elim
    | some p' =>
      obtain ⟨j', w'⟩ := p'
      rw [h1, h2] at hb
      obtain ⟨rfl, rfl, t, ht, htm⟩ := hb
      rw [h1] at hB
      have hB : IsBest d (seenAll ts X) (seenAll ts X).length j w' := hB
      obtain ⟨s', hs', hc, hw⟩ := hB.there
      have e : s' = t := by rw [hs'] at ht; exact Option.some.inj ht
      subst e
      unfold seenAll at hs'
      rw [List.getElem?_map] at hs'
      cases hX : X[j]? with
      | none => rw [hX] at hs'; cases hs'
      | some s =>
        rw [hX] at hs'
        have e : s' = seen ts s := (Option.some.inj hs').symm
        subst e
        refine ⟨j, s, rfl, hX, htm, posF_seen ts X j, hw, ?_⟩
        unfold cand at hc
        rw [Bool.and_eq_true] at hc
        exact hc.2
theorem fit1_free (ts : List Tm) (s : Slot) (z : Nat → Int) : fit1 ts { s with free := z } = fit1 ts s := rfl
theorem keptS_take {ts : List Tm} {d : V} {X : List Slot} {j : Nat} {s : Slot} (h : X[j]? = some s) (hm : fit1 ts s = true) : keptS ts (takeS d X j) = (keptS ts X).set (posF (fit1 ts) X j) { s with free := sub4 s.free d } := by
  rw [takeS_some h]
  exact posF_set h hm (by rw [fit1_free]; exact hm)
theorem keptS_get {ts : List Tm} {X : List Slot} {j : Nat} {s : Slot} (h : X[j]? = some s) (hm : fit1 ts s = true) : (keptS ts X)[posF (fit1 ts) X j]? = some s := posF_get h hm
theorem keptS_length (ts : List Tm) (X : List Slot) : (keptS ts X).length ≤ X.length := List.length_filter_le _ _
end Go.Proofs.Ytbefnophkaepmaa.Pack
