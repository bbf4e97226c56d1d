/- To be under is to be a beginning, name by name; no program. -/
import Derived.Test.YtmcpeejmmhaohaaDoorWGlue
namespace Go.Proofs.YtmcpeejmmhaohaaDoor.Word

theorem mem_ups : ∀ (n : Nat) (B : List (List UInt8)), B.length = n → ∀ x, x ∈ upsOf [] B ↔ ∃ k, 1 ≤ k ∧ k ≤ B.length ∧ x = glue (B.take k)
  | 0, B, h, x => by
    obtain rfl := List.eq_nil_of_length_eq_zero h
    constructor
    · intro hx
      cases hx
    · rintro ⟨k, h1, h2, _⟩
      simp at h2
      omega
  | n + 1, B, h, x => by
    have hn : n < B.length := by omega
    have e := ups_take hn
    rw [show n + 1 = B.length from h.symm, List.take_length] at e
    have hl : (B.take n).length = n := by rw [List.length_take]; omega
    have ih := mem_ups n (B.take n) hl x
    rw [e, List.mem_append, ih, List.mem_singleton]
    constructor
    · rintro (⟨k, h1, h2, h3⟩ | h3)
      · rw [hl] at h2
        rw [List.take_take, Nat.min_eq_left h2] at h3
        exact ⟨k, h1, by omega, h3⟩
      · exact ⟨B.length, by omega, Nat.le_refl _, by rw [List.take_length]; exact h3⟩
    · rintro ⟨k, h1, h2, h3⟩
      by_cases hk : k = B.length
      · right
        rw [hk, List.take_length] at h3
        exact h3
      · left
        refine ⟨k, h1, by rw [hl]; omega, ?_⟩
        rw [List.take_take, Nat.min_eq_left (by omega)]
        exact h3

/-- Names, one to three of them. -/
structure Path (A : List (List UInt8)) : Prop where
  right : ∀ a ∈ A, right a = true
  le : A.length ≤ 3
  ne : A ≠ []
theorem Path.take {A : List (List UInt8)} (h : Path A) {k : Nat} (hk : 1 ≤ k) : Path (A.take k) :=
  ⟨fun a ha => h.right a (List.mem_of_mem_take ha), by have := h.le; rw [List.length_take]; omega, fun e => by
    have := congrArg List.length e
    have h1 := List.length_pos_iff.2 h.ne
    rw [List.length_take, List.length_nil] at this
    omega⟩
theorem Path.inj {A B : List (List UInt8)} (h : Path A) (k : Path B) (e : glue A = glue B) : A = B := by
  rw [← names_parts h.right h.le, e, names_parts k.right k.le]

theorem under_iff {A B : List (List UInt8)} (h : Path A) (k : Path B) : under (glue A) (glue B) = true ↔ A <+: B := by
  unfold under
  rw [decide_eq_true_iff, names_ups k.right k.le, mem_ups _ B rfl]
  constructor
  · rintro ⟨n, h1, _, h3⟩
    rw [h.inj (k.take h1) h3]
    exact List.take_prefix _ _
  · intro hp
    refine ⟨A.length, List.length_pos_iff.2 h.ne, hp.length_le, ?_⟩
    rw [← List.prefix_iff_eq_take.1 hp]
theorem under_empty {A : List (List UInt8)} (h : Path A) : under [] (glue A) = false := by
  cases hu : under [] (glue A) with
  | false => rfl
  | true =>
    unfold under at hu
    rw [decide_eq_true_iff, names_ups h.right h.le, mem_ups _ A rfl] at hu
    obtain ⟨n, h1, h2, h3⟩ := hu
    have hp := h.take h1
    have := names_parts hp.right hp.le
    rw [← h3] at this
    exact absurd this.symm hp.ne

/-- What the statement asks of three paths, two of them above one. -/
theorem order_facts {X Y : List (List UInt8)} (hX : Path X) (hY : Path Y) (a b : Nat) (ha : 1 ≤ a) (hb : 1 ≤ b) :
    under (glue X) (glue X) = true ∧ under (glue (X.take b)) (glue X) = true ∧
    under (glue X) (glue (X.take b)) = decide (glue X = glue (X.take b)) ∧
    (under (glue (Y.take a)) (glue (X.take b)) = true → under (glue (Y.take a)) (glue X) = true) ∧
    (under (glue (Y.take a)) (glue (X.take b)) = true → under (glue (X.take b)) (glue (Y.take a)) = true → glue (Y.take a) = glue (X.take b)) ∧
    (under (glue (Y.take a)) (glue X) = true → under (glue (Y.take a)) (glue (X.take b)) = true ∨ under (glue (X.take b)) (glue (Y.take a)) = true) := by
  have hW := hX.take hb
  have hZ := hY.take ha
  have hwx : X.take b <+: X := List.take_prefix _ _
  refine ⟨(under_iff hX hX).2 (List.prefix_refl _), (under_iff hW hX).2 hwx, ?_, ?_, ?_, ?_⟩
  · rw [Bool.eq_iff_iff, under_iff hX hW, decide_eq_true_iff]
    constructor
    · intro h
      exact congrArg glue (hwx.eq_of_length (Nat.le_antisymm hwx.length_le h.length_le)).symm
    · intro h
      rw [← hX.inj hW h]
      exact List.prefix_refl _
  · rw [under_iff hZ hW, under_iff hZ hX]
    exact fun h => h.trans hwx
  · rw [under_iff hZ hW, under_iff hW hZ]
    intro h h'
    rw [h.eq_of_length (Nat.le_antisymm h.length_le h'.length_le)]
  · rw [under_iff hZ hX, under_iff hZ hW, under_iff hW hZ]
    exact fun h => List.prefix_or_prefix_of_prefix h hwx
theorem upsOf_get : ∀ (l : List (List UInt8)) (pre : List UInt8) (k : Nat), k < l.length → (upsOf pre l)[k]? = some (pre ++ glue (l.take (k + 1)))
  | [], _, _, h => by simp at h
  | a :: l, pre, 0, _ => by simp [upsOf, glue]
  | a :: l, pre, k + 1, h => by
    have ih := upsOf_get l (pre ++ a ++ [47]) k (by simpa using h)
    rw [upsOf, List.getElem?_cons_succ, ih]
    cases l with
    | nil => simp at h
    | cons b l => simp [glue]
end Go.Proofs.YtmcpeejmmhaohaaDoor.Word
