/- Plain facts on names put together to paths; no program. -/
import Derived.Test.YtbilkeadhflibaaGreatDoorWMade
namespace Go.Proofs.YtbilkeadhflibaaGreatDoor.Word

theorem upsOf_snoc : ∀ (l : List (List UInt8)) (pre a : List UInt8), upsOf pre (l ++ [a]) = upsOf pre l ++ [pre ++ glue (l ++ [a])]
  | [], pre, a => by simp [upsOf, glue]
  | b :: l, pre, a => by
    rw [List.cons_append, upsOf, upsOf, upsOf_snoc l (pre ++ b ++ [47]) a]
    have e : glue (b :: (l ++ [a])) = b ++ 47 :: glue (l ++ [a]) := by
      cases l <;> rfl
    rw [e]
    simp
theorem take_glue {ps : List (List UInt8)} {k : Nat} (hk : k < ps.length) : glue (ps.take (k + 1)) = if k = 0 then ps[k] else glue (ps.take k) ++ 47 :: ps[k] := by
  rw [List.take_succ_eq_append_getElem hk]
  split
  · rename_i h
    subst h
    rfl
  · exact glue_snoc _ _ (by
      intro h
      have := congrArg List.length h
      rw [List.length_take, List.length_nil] at this
      omega)
theorem ups_take {ps : List (List UInt8)} {k : Nat} (hk : k < ps.length) : upsOf [] (ps.take (k + 1)) = upsOf [] (ps.take k) ++ [glue (ps.take (k + 1))] := by
  rw [List.take_succ_eq_append_getElem hk, upsOf_snoc]
  rfl

theorem pieces_slash : ∀ (l : List UInt8), pieces (l ++ [47]) = pieces l ++ [[]]
  | [] => rfl
  | c :: l => by
    have ih := pieces_slash l
    have hne := pieces_ne l
    rw [List.cons_append]
    unfold pieces
    rw [ih]
    split
    · rfl
    · cases hp : pieces l with
      | nil => exact absurd hp hne
      | cons p ps => rfl
theorem parts_nil_of {l : List UInt8} (h : [] ∈ pieces l) : parts l = [] := by
  unfold parts
  rw [if_neg]
  rintro ⟨_, ha⟩
  have := List.all_eq_true.1 ha [] h
  simp [right_nil] at this
theorem parts_slash (l : List UInt8) : parts (l ++ [47]) = [] := parts_nil_of (by rw [pieces_slash]; simp)
theorem parts_ahead (l : List UInt8) : parts (47 :: l) = [] := parts_nil_of (by simp [pieces])

/-- One to three names. -/
def names (l : List (List UInt8)) : List (List UInt8) := (l.take 3).map made
theorem names_right {l : List (List UInt8)} {a : List UInt8} (h : a ∈ names l) : right a = true := by
  obtain ⟨b, _, rfl⟩ := List.mem_map.1 h
  exact made_right b
theorem names_le (l : List (List UInt8)) : (names l).length ≤ 3 := by simp [names]; omega
theorem names_parts {ns : List (List UInt8)} (h : ∀ a ∈ ns, right a = true) (hl : ns.length ≤ 3) : parts (glue ns) = ns := by
  cases ns with
  | nil => rfl
  | cons a ls => exact parts_of a ls h (by simpa using hl)
theorem names_ups {ns : List (List UInt8)} (h : ∀ a ∈ ns, right a = true) (hl : ns.length ≤ 3) : ups (glue ns) = upsOf [] ns := by
  unfold ups
  rw [names_parts h hl]
theorem names_more {ns : List (List UInt8)} (h : ∀ a ∈ ns, right a = true) (hne : ns ≠ []) (hl : ns.length ≤ 3) : parts (glue ns ++ [47, 120]) = if ns.length < 3 then ns ++ [[120]] else [] := by
  have e : glue ns ++ [47, 120] = glue (ns ++ [[120]]) := (glue_snoc ns [120] hne).symm
  have hx : ∀ a ∈ ns ++ [[120]], right a = true := fun a ha => by
    rcases List.mem_append.1 ha with ha | ha
    · exact h a ha
    · simp at ha; subst ha; decide
  rw [e]
  split
  · exact names_parts hx (by simp; omega)
  · rename_i h3
    unfold parts
    rw [if_neg]
    rintro ⟨hc, _⟩
    cases ns with
    | nil => exact hne rfl
    | cons a ls =>
      have := pieces_glue a (ls ++ [[120]]) (fun x hx' => (right_free (hx x (by simpa using hx'))).1)
      rw [List.cons_append] at hc
      rw [this] at hc
      simp at hc h3
      omega
end Go.Proofs.YtbilkeadhflibaaGreatDoor.Word
