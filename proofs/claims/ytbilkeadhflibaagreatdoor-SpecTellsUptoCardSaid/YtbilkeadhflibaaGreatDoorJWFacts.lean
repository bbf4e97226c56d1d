/- Plain facts on names and paths that the statements ask for; no program. -/
import Derived.Test.YtbilkeadhflibaaGreatDoorJL4
namespace Go.Proofs.YtbilkeadhflibaaGreatDoor.Word

theorem right_parts {l : List UInt8} (h : right l = true) : parts l = [l] := by
  have := parts_of l [] (by simpa using h) (by simp)
  exact this
theorem parts_none {l : List UInt8} (h : parts l = []) : right l = false := by
  cases hr : right l with
  | false => rfl
  | true => rw [right_parts hr] at h; simp at h
theorem glue_mem : ∀ (a b : List UInt8) (ls : List (List UInt8)), (47 : UInt8) ∈ glue (a :: b :: ls)
  | a, b, ls => by
    show (47 : UInt8) ∈ a ++ 47 :: glue (b :: ls)
    simp
theorem right_of_parts {l : List UInt8} (h : parts l ≠ []) : right l = decide ((parts l).length = 1) := by
  have hg := parts_glue h
  have hr := fun a => parts_right (l := l) (a := a)
  match hp : parts l with
  | [] => exact absurd hp h
  | [a] =>
    rw [hp] at hg hr
    have e : a = l := hg
    have := hr a (by simp)
    rw [e] at this
    simp [this]
  | a :: b :: ls =>
    rw [hp] at hg
    cases hl : right l with
    | false => simp
    | true =>
      have := glue_mem a b ls
      rw [hg] at this
      exact absurd this (right_free hl).1

theorem upsOf_last : ∀ (ls : List (List UInt8)) (pre a : List UInt8), pre ++ glue (a :: ls) ∈ upsOf pre (a :: ls)
  | [], pre, a => by simp [upsOf, glue]
  | b :: ls, pre, a => by
    rw [upsOf]
    refine List.mem_cons_of_mem _ ?_
    have := upsOf_last ls (pre ++ a ++ [47]) b
    have e : pre ++ glue (a :: b :: ls) = pre ++ a ++ [47] ++ glue (b :: ls) := by
      show pre ++ (a ++ 47 :: glue (b :: ls)) = _
      simp
    rw [e]
    exact this
theorem under_self {l : List UInt8} (h : parts l ≠ []) : under l l = true := by
  have hg := parts_glue h
  unfold under ups
  match hp : parts l with
  | [] => exact absurd hp h
  | a :: ls =>
    rw [hp] at hg
    have := upsOf_last ls [] a
    rw [List.nil_append, hg] at this
    simpa using this
theorem under_none {a l : List UInt8} (h : parts l = []) : under a l = false := by
  unfold under ups
  rw [h]
  simp [upsOf]

theorem glue_snoc : ∀ (ls : List (List UInt8)) (a : List UInt8), ls ≠ [] → glue (ls ++ [a]) = glue ls ++ 47 :: a
  | [], _, h => absurd rfl h
  | [b], a, _ => rfl
  | b :: c :: ls, a, _ => by
    show b ++ 47 :: glue (c :: ls ++ [a]) = b ++ 47 :: glue (c :: ls) ++ 47 :: a
    rw [glue_snoc (c :: ls) a (by simp)]
    simp
theorem glue_len : ∀ (ls : List (List UInt8)), (∀ a ∈ ls, a.length ≤ 32) → (glue ls).length ≤ 33 * ls.length
  | [], _ => by simp [glue]
  | [a], h => by have := h a (by simp); simp [glue]; omega
  | a :: b :: ls, h => by
    have h1 := h a (by simp)
    have h2 := glue_len (b :: ls) (fun x hx => h x (List.mem_cons_of_mem _ hx))
    show (a ++ 47 :: glue (b :: ls)).length ≤ _
    simp only [List.length_append, List.length_cons] at *
    omega
end Go.Proofs.YtbilkeadhflibaaGreatDoor.Word
