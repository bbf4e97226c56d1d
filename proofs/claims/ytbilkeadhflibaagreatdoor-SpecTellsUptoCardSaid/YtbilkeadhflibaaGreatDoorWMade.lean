/- Names by bytes: the plain mathematics of what the statements make. No program. -/
import Derived.Test.YtbilkeadhflibaaGreatDoorJWFacts
namespace Go.Proofs.YtbilkeadhflibaaGreatDoor.Word

theorem dec_one (c : UInt8) (t : List UInt8) (h : c.toNat < 128) : dec (c :: t) = (c.toNat, 1) := by
  unfold dec Lib.decodeN
  rw [show (c :: t).getD 0 0 = c from rfl, if_pos h]
theorem dec_two (c d : UInt8) (t : List UInt8) (h : 194 ≤ c.toNat ∧ c.toNat < 224) (h' : 128 ≤ d.toNat ∧ d.toNat < 192) : dec (c :: d :: t) = (c.toNat % 32 * 64 + d.toNat % 64, 2) := by
  unfold dec Lib.decodeN
  rw [show (c :: d :: t).getD 0 0 = c from rfl, show (c :: d :: t).getD 1 0 = d from rfl, if_neg (by omega), if_pos ⟨by omega, by simp, by omega⟩, if_pos (by omega)]
theorem dec_bad (t : List UInt8) : dec (255 :: t) = (65533, 1) := by
  unfold dec Lib.decodeN
  rw [show (255 :: t).getD 0 0 = 255 from rfl]
  simp
theorem runes_one (c : UInt8) (t : List UInt8) (h : c.toNat < 128) : runes (c :: t) = c.toNat :: runes t := by
  rw [runes_cons (by simp), dec_one c t h]; rfl
theorem runes_two (c d : UInt8) (t : List UInt8) (h : 194 ≤ c.toNat ∧ c.toNat < 224) (h' : 128 ≤ d.toNat ∧ d.toNat < 192) : runes (c :: d :: t) = (c.toNat % 32 * 64 + d.toNat % 64) :: runes t := by
  rw [runes_cons (by simp), dec_two c d t h h']; rfl
theorem runes_bad (t : List UInt8) : runes (255 :: t) = 65533 :: runes t := by
  rw [runes_cons (by simp), dec_bad]; rfl
theorem runes_bads (k : Nat) (t : List UInt8) : runes (List.replicate k 255 ++ t) = List.replicate k 65533 ++ runes t := by
  induction k with
  | zero => rfl
  | succ k ih => rw [List.replicate_succ, List.cons_append, runes_bad, ih]; rfl

/-- The fourteen pieces. -/
def table : List (List UInt8) := [[97], [122], [109], [206, 177], [207, 137], [207, 130], [208, 176], [209, 143], [208, 182], [107], [48], [57], [45], [53]]
def item (n : Nat) : List UInt8 := table.getD (n % 14) []
def itemRune (n : Nat) : Nat := [97, 122, 109, 945, 969, 962, 1072, 1103, 1078, 107, 48, 57, 45, 53].getD (n % 14) 0

theorem item_runes (n : Nat) (t : List UInt8) : runes (item n ++ t) = itemRune n :: runes t := by
  have h : n % 14 < 14 := Nat.mod_lt _ (by decide)
  unfold item itemRune
  generalize n % 14 = k at h
  match k, h with
  | 0, _ => exact runes_one 97 t (by decide)
  | 1, _ => exact runes_one 122 t (by decide)
  | 2, _ => exact runes_one 109 t (by decide)
  | 3, _ => exact runes_two 206 177 t (by decide) (by decide)
  | 4, _ => exact runes_two 207 137 t (by decide) (by decide)
  | 5, _ => exact runes_two 207 130 t (by decide) (by decide)
  | 6, _ => exact runes_two 208 176 t (by decide) (by decide)
  | 7, _ => exact runes_two 209 143 t (by decide) (by decide)
  | 8, _ => exact runes_two 208 182 t (by decide) (by decide)
  | 9, _ => exact runes_one 107 t (by decide)
  | 10, _ => exact runes_one 48 t (by decide)
  | 11, _ => exact runes_one 57 t (by decide)
  | 12, _ => exact runes_one 45 t (by decide)
  | 13, _ => exact runes_one 53 t (by decide)
theorem itemRune_good (n : Nat) : isLetter (itemRune n) = true ∨ isInner (itemRune n) = true := by
  have h : n % 14 < 14 := Nat.mod_lt _ (by decide)
  unfold itemRune
  generalize n % 14 = k at h
  revert k
  decide
theorem item_size (n : Nat) : (item n).length ≤ 2 := by
  have h : n % 14 < 14 := Nat.mod_lt _ (by decide)
  unfold item
  generalize n % 14 = k at h
  revert k
  decide

/-- A name by bytes. -/
def items (l : List UInt8) : List UInt8 := l.flatMap fun b => item b.toNat
def made (l : List UInt8) : List UInt8 := 98 :: items (l.take 15)
def madeRunes (l : List UInt8) : List Nat := 98 :: (l.take 15).map fun b => itemRune b.toNat

theorem items_runes (t : List UInt8) : ∀ l : List UInt8, runes (items l ++ t) = (l.map fun b => itemRune b.toNat) ++ runes t
  | [] => rfl
  | b :: l => by
    show runes (item b.toNat ++ items l ++ t) = _
    rw [List.append_assoc, item_runes, items_runes t l]
    rfl
theorem made_runes (l t : List UInt8) : runes (made l ++ t) = madeRunes l ++ runes t := by
  show runes (98 :: (items (l.take 15) ++ t)) = _
  rw [runes_one 98 _ (by decide), items_runes]
  rfl
theorem made_alone (l : List UInt8) : runes (made l) = madeRunes l := by
  have := made_runes l []
  rwa [List.append_nil, runes_nil, List.append_nil] at this
theorem madeRunes_length (l : List UInt8) : (madeRunes l).length = 1 + min l.length 15 := by simp [madeRunes]; omega
theorem made_count (l : List UInt8) : count (made l) = 1 + min l.length 15 := by rw [count, made_alone, madeRunes_length]

/-- A name with more behind it is a name just if what is behind are runes of one, and not too many. -/
theorem made_more (l t : List UInt8) : right (made l ++ t) = true ↔ (∀ r ∈ runes t, isLetter r = true ∨ isInner r = true) ∧ min l.length 15 + (runes t).length ≤ 15 := by
  rw [right_iff, made_runes]
  constructor
  · rintro ⟨r, rs, e, _, h2, h3⟩
    injection e with e1 e2
    subst e2
    refine ⟨fun x hx => h2 x (List.mem_append_right _ hx), ?_⟩
    simp at h3
    omega
  · rintro ⟨h1, h2⟩
    refine ⟨98, ((l.take 15).map fun b => itemRune b.toNat) ++ runes t, rfl, by decide, fun x hx => ?_, ?_⟩
    · rcases List.mem_append.1 hx with hx | hx
      · obtain ⟨b, _, rfl⟩ := List.mem_map.1 hx
        exact itemRune_good _
      · exact h1 x hx
    · simp
      omega
theorem made_right (l : List UInt8) : right (made l) = true := by
  have := (made_more l []).2 ⟨by simp [runes_nil], by simp [runes_nil]; omega⟩
  rwa [List.append_nil] at this
theorem made_len (l : List UInt8) : (made l).length ≤ 32 := (right_free (made_right l)).2
theorem made_free (l : List UInt8) : (47 : UInt8) ∉ made l := (right_free (made_right l)).1
theorem made_spoilt (l : List UInt8) (c : UInt8) (h : c.toNat < 128) (h' : isLetter c.toNat = false ∧ isInner c.toNat = false) : right (made l ++ [c]) = false := by
  cases hr : right (made l ++ [c]) with
  | false => rfl
  | true =>
    have := ((made_more l [c]).1 hr).1 c.toNat (by rw [runes_one c [] h]; simp)
    rw [h'.1, h'.2] at this
    simp at this
theorem made_z (l : List UInt8) : right (made l ++ [122]) = decide (1 + min l.length 15 < 16) := by
  have h := made_more l [122]
  rw [runes_one 122 [] (by decide), runes_nil] at h
  rw [Bool.eq_iff_iff, h, decide_eq_true_iff]
  constructor
  · rintro ⟨_, h2⟩
    simp at h2
    omega
  · intro h2
    refine ⟨fun r hr => ?_, by simp; omega⟩
    simp at hr
    subst hr
    left; decide
theorem ahead_none (c : UInt8) (l : List UInt8) (h : c.toNat < 128) (h' : isLetter c.toNat = false) : right (c :: l) = false := by
  cases hr : right (c :: l) with
  | false => rfl
  | true =>
    obtain ⟨r, rs, e, h1, _⟩ := (right_iff _).1 hr
    rw [runes_one c l h] at e
    injection e with e1 _
    rw [← e1, h'] at h1
    simp at h1
theorem made_bads (l : List UInt8) (k : Nat) : right (made l ++ List.replicate k 255) = decide (k = 0) := by
  have hr := runes_bads k []
  rw [List.append_nil, runes_nil, List.append_nil] at hr
  cases k with
  | zero => simpa using made_right l
  | succ k =>
    cases h : right (made l ++ List.replicate (k + 1) 255) with
    | false => simp
    | true =>
      have := ((made_more l _).1 h).1 65533 (by rw [hr]; simp)
      exact absurd this (by decide)
end Go.Proofs.YtbilkeadhflibaaGreatDoor.Word
