/- The plain mathematics of names and paths: runes of a text, names, the pieces between slashes; no program. -/
import Derived.Lib.DecodeN
import Derived.Lib.RuneCount
import Derived.Lib.Strings
import Derived.Lib.Bytealg
import Derived.Lib.IndexLaws
namespace Go.Proofs.YthopegokjbibmaaDoor.Word

/-- A text of bytes. -/
def str (l : List UInt8) : ByteArray := ⟨l.toArray⟩
theorem str_toList (l : List UInt8) : (str l).data.toList = l := by simp [str]
theorem str_size (l : List UInt8) : (str l).size = l.length := by simp [str, ByteArray.size]
theorem str_data (s : ByteArray) : str s.data.toList = s := by cases s; simp [str]
theorem str_inj {a b : List UInt8} (h : str a = str b) : a = b := by rw [← str_toList a, h, str_toList]
theorem size_list (s : ByteArray) : s.data.toList.length = s.size := Array.length_toList
theorem str_append (a b : List UInt8) : str a ++ str b = str (a ++ b) := by
  apply ByteArray.ext
  simp [str]
theorem append_str (a b : ByteArray) : a ++ b = str (a.data.toList ++ b.data.toList) := by
  rw [← str_append, str_data, str_data]

/-- The rune that stands first, and how many bytes it has. -/
def dec (l : List UInt8) : Nat × Nat := Lib.decodeN l.length (l.getD 0 0).toNat (l.getD 1 0).toNat (l.getD 2 0).toNat (l.getD 3 0).toNat

theorem get_drop (s : ByteArray) (i k : Nat) : s.get! (i + k) = (s.data.toList.drop i).getD k 0 := by
  show s.data[i + k]! = _
  rw [List.getD_eq_getElem?_getD, List.getElem?_drop, Array.getElem?_toList, getElem!_def]
  cases s.data[i + k]? <;> rfl
theorem decode_drop (s : ByteArray) (i : Nat) : Utf8.decode s i = dec (s.data.toList.drop i) := by
  rw [Lib.decode_at, dec, List.length_drop, size_list, ← get_drop, ← get_drop, ← get_drop, ← get_drop]
  rfl

theorem dec_pos {l : List UInt8} : 1 ≤ (dec l).2 := by
  unfold dec Lib.decodeN
  repeat' split
  all_goals simp
theorem dec_le {l : List UInt8} (h : l ≠ []) : (dec l).2 ≤ l.length := by
  have : 1 ≤ l.length := by cases l <;> simp_all
  unfold dec Lib.decodeN
  repeat' split
  all_goals simp
  all_goals omega

/-- The runes of a text, of bytes that are no rune's one each. -/
def runesF : Nat → List UInt8 → List Nat
  | 0, _ => []
  | f + 1, l => if l = [] then [] else (dec l).1 :: runesF f (l.drop (dec l).2)
def runes (l : List UInt8) : List Nat := runesF l.length l

theorem runesF_nil (f : Nat) : runesF f [] = [] := by cases f <;> rfl
theorem runesF_more : ∀ (f g : Nat) (l : List UInt8), l.length ≤ f → l.length ≤ g → runesF f l = runesF g l
  | 0, g, l, hf, _ => by
    obtain rfl : l = [] := List.eq_nil_of_length_eq_zero (by omega)
    rw [runesF_nil, runesF_nil]
  | f + 1, 0, l, _, hg => by
    obtain rfl : l = [] := List.eq_nil_of_length_eq_zero (by omega)
    rw [runesF_nil, runesF_nil]
  | f + 1, g + 1, l, hf, hg => by
    unfold runesF
    split
    · rfl
    · rename_i hl
      have h1 := dec_pos (l := l)
      have h2 : 1 ≤ l.length := by cases l <;> simp_all
      rw [runesF_more f g _ (by rw [List.length_drop]; omega) (by rw [List.length_drop]; omega)]
theorem runes_nil : runes [] = [] := rfl
theorem runes_cons {l : List UInt8} (h : l ≠ []) : runes l = (dec l).1 :: runes (l.drop (dec l).2) := by
  have h1 := dec_pos (l := l)
  have h2 : 1 ≤ l.length := by cases l <;> simp_all
  unfold runes
  rw [show l.length = (l.length - 1) + 1 by omega, runesF, if_neg h, runesF_more (l.length - 1) (l.drop (dec l).2).length _ (by rw [List.length_drop]; omega) (Nat.le_refl _)]
theorem runes_length : ∀ (f : Nat) (l : List UInt8), (runesF f l).length ≤ f
  | 0, _ => by simp [runesF]
  | f + 1, l => by
    unfold runesF
    split
    · simp
    · simp only [List.length_cons]
      have := runes_length f (l.drop (dec l).2)
      omega
theorem runes_le (l : List UInt8) : (runes l).length ≤ l.length := runes_length _ _

/-- How many runes: P2.1. -/
def count (l : List UInt8) : Nat := (runes l).length

def isLetter (r : Nat) : Bool := (decide (97 ≤ r) && decide (r ≤ 122)) || (decide (945 ≤ r) && decide (r ≤ 969)) || (decide (1072 ≤ r) && decide (r ≤ 1103))
def isInner (r : Nat) : Bool := decide (r = 45) || (decide (48 ≤ r) && decide (r ≤ 57))

/-- Is what is left of a name, k runes ahead of it, the rest of one? -/
def rightR : Nat → List Nat → Bool
  | k, [] => decide (0 < k)
  | k, r :: rs => if k = 16 ∨ (isLetter r = false ∧ (k = 0 ∨ isInner r = false)) then false else rightR (k + 1) rs
/-- A name: P2.1. -/
def right (l : List UInt8) : Bool := rightR 0 (runes l)

theorem rightR_inner : ∀ (rs : List Nat) (k : Nat), 0 < k → k ≤ 16 → (rightR k rs = true ↔ (∀ r ∈ rs, isLetter r = true ∨ isInner r = true) ∧ k + rs.length ≤ 16)
  | [], k, h, h' => by simp [rightR, h, h']
  | r :: rs, k, h, h' => by
    unfold rightR
    split
    · rename_i hc
      simp only [Bool.false_eq_true, false_iff, not_and, List.length_cons]
      intro ha
      rcases hc with rfl | ⟨h1, h2 | h2⟩
      · omega
      · omega
      · have := ha r (List.mem_cons_self ..)
        simp [h1, h2] at this
    · rename_i hc
      have hk : k ≠ 16 := fun e => hc (.inl e)
      have hr : isLetter r = true ∨ isInner r = true := by
        cases h1 : isLetter r
        · cases h2 : isInner r
          · exact absurd (.inr ⟨h1, .inr h2⟩) hc
          · exact .inr rfl
        · exact .inl rfl
      rw [rightR_inner rs (k + 1) (by omega) (by omega)]
      constructor
      · rintro ⟨ha, hl⟩
        refine ⟨fun x hx => ?_, by simp only [List.length_cons]; omega⟩
        rcases List.mem_cons.1 hx with rfl | hx
        · exact hr
        · exact ha x hx
      · rintro ⟨ha, hl⟩
        exact ⟨fun x hx => ha x (List.mem_cons_of_mem _ hx), by simp only [List.length_cons] at hl; omega⟩

/-- A name: one to sixteen runes, letters, digits and dashes, the first one a letter. -/
theorem right_iff (l : List UInt8) : right l = true ↔ ∃ r rs, runes l = r :: rs ∧ isLetter r = true ∧ (∀ x ∈ rs, isLetter x = true ∨ isInner x = true) ∧ rs.length ≤ 15 := by
  unfold right
  cases h : runes l with
  | nil => simp [rightR]
  | cons r rs =>
    unfold rightR
    cases hr : isLetter r with
    | false => simp [hr]
    | true =>
      rw [if_neg (by simp), rightR_inner rs 1 (by omega) (by omega)]
      constructor
      · rintro ⟨ha, hl⟩
        exact ⟨r, rs, rfl, hr, ha, by omega⟩
      · rintro ⟨r', rs', e, _, ha, hl⟩
        injection e with e1 e2
        subst e1 e2
        exact ⟨ha, by omega⟩

theorem right_nil : right [] = false := rfl

/-! ### the bytes of a name -/

theorem dec_small {l : List UInt8} (h : (dec l).1 < 2048) (h0 : l ≠ []) : (dec l).2 ≤ 2 ∧ ((dec l).2 = 1 ∧ (dec l).1 = (l.getD 0 0).toNat ∧ (dec l).1 < 128 ∨ (dec l).2 = 2 ∧ 128 ≤ (dec l).1 ∧ 192 ≤ (l.getD 0 0).toNat ∧ 128 ≤ (l.getD 1 0).toNat ∧ 2 ≤ l.length) := by
  have hl : 1 ≤ l.length := by cases l <;> simp_all
  revert h
  unfold dec Lib.decodeN
  generalize (l.getD 0 0).toNat = b0
  generalize (l.getD 1 0).toNat = b1
  generalize (l.getD 2 0).toNat = b2
  generalize (l.getD 3 0).toNat = b3
  repeat' split
  all_goals intro h
  all_goals dsimp only at h ⊢
  all_goals first | omega | (exfalso; omega)

theorem letter_lt {r : Nat} (h : isLetter r = true ∨ isInner r = true) : r < 2048 ∧ r ≠ 47 := by
  simp only [isLetter, isInner, Bool.or_eq_true, Bool.and_eq_true, decide_eq_true_eq] at h
  omega

theorem letters_free : ∀ (f : Nat) (l : List UInt8), l.length ≤ f → (∀ r ∈ runes l, isLetter r = true ∨ isInner r = true) → (47 : UInt8) ∉ l ∧ l.length ≤ 2 * (runes l).length
  | 0, l, hf, _ => by
    obtain rfl : l = [] := List.eq_nil_of_length_eq_zero (by omega)
    simp
  | f + 1, l, hf, h => by
    by_cases hl : l = []
    · subst hl; simp
    have hr := runes_cons hl
    have hd := h (dec l).1 (by rw [hr]; exact List.mem_cons_self ..)
    have hlt := letter_lt hd
    have hsm := dec_small hlt.1 hl
    have hpos := dec_pos (l := l)
    have hlen : 1 ≤ l.length := List.length_pos_iff.2 hl
    have ih := letters_free f (l.drop (dec l).2) (by rw [List.length_drop]; omega) (fun r hr' => h r (by rw [hr]; exact List.mem_cons_of_mem _ hr'))
    refine ⟨fun hm => ?_, ?_⟩
    · rw [← List.take_append_drop (dec l).2 l, List.mem_append] at hm
      rcases hm with hm | hm
      · rcases hsm.2 with ⟨h1, h2, h3⟩ | ⟨h1, h2, h3, h4, h5⟩
        · rw [h1] at hm
          cases l with
          | nil => simp at hl
          | cons c l =>
            simp only [List.take_succ_cons, List.take_zero, List.mem_singleton] at hm
            subst hm
            rw [h2] at hlt
            exact hlt.2 rfl
        · rw [h1] at hm
          match l, h5 with
          | c :: d :: l, _ =>
            simp only [List.take_succ_cons, List.take_zero, List.mem_cons, List.not_mem_nil, or_false] at hm
            rcases hm with rfl | rfl
            · simp at h3
            · simp at h4
      · exact ih.1 hm
    · rw [hr, List.length_cons]
      have := ih.2
      rw [List.length_drop] at this
      omega

/-- A name has no slash, and at most thirty-two bytes. -/
theorem right_free {l : List UInt8} (h : right l = true) : (47 : UInt8) ∉ l ∧ l.length ≤ 32 := by
  obtain ⟨r, rs, e, h1, h2, h3⟩ := (right_iff l).1 h
  have := letters_free l.length l (Nat.le_refl _) (fun x hx => by
    rw [e] at hx
    rcases List.mem_cons.1 hx with rfl | hx
    · exact .inl h1
    · exact h2 x hx)
  rw [e, List.length_cons] at this
  exact ⟨this.1, by omega⟩

/-! ### pieces -/

/-- What stands between slashes. -/
def pieces : List UInt8 → List (List UInt8)
  | [] => [[]]
  | c :: l => if c = 47 then [] :: pieces l else (c :: (pieces l).headD []) :: (pieces l).tail

theorem pieces_ne (l : List UInt8) : pieces l ≠ [] := by
  cases l with
  | nil => simp [pieces]
  | cons c l => unfold pieces; split <;> simp
theorem pieces_free : ∀ {l : List UInt8}, (47 : UInt8) ∉ l → pieces l = [l]
  | [], _ => rfl
  | c :: l, h => by
    have h1 : c ≠ 47 := fun e => h (by rw [e]; exact List.mem_cons_self ..)
    have h2 := pieces_free (l := l) (fun hm => h (List.mem_cons_of_mem _ hm))
    rw [pieces, if_neg h1, h2]
    rfl
theorem pieces_cut : ∀ {a : List UInt8} (b : List UInt8), (47 : UInt8) ∉ a → pieces (a ++ 47 :: b) = a :: pieces b
  | [], b, _ => by simp [pieces]
  | c :: a, b, h => by
    have h1 : c ≠ 47 := fun e => h (by rw [e]; exact List.mem_cons_self ..)
    have h2 := pieces_cut (a := a) b (fun hm => h (List.mem_cons_of_mem _ hm))
    rw [List.cons_append, pieces, if_neg h1, h2]
    rfl

/-- Pieces, slashes between. -/
def glue : List (List UInt8) → List UInt8
  | [] => []
  | [a] => a
  | a :: b :: l => a ++ 47 :: glue (b :: l)
theorem glue_pieces : ∀ (l : List UInt8), glue (pieces l) = l
  | [] => rfl
  | c :: l => by
    have ih := glue_pieces l
    have hne := pieces_ne l
    unfold pieces
    cases hp : pieces l with
    | nil => exact absurd hp hne
    | cons p ps =>
      rw [hp] at ih
      split
      · rename_i h
        subst h
        show [] ++ 47 :: glue (p :: ps) = _
        rw [ih]; rfl
      · simp only [List.headD_cons, List.tail_cons]
        cases ps with
        | nil => show c :: p = _; rw [← ih]; rfl
        | cons q ps => show c :: p ++ 47 :: glue (q :: ps) = _; rw [← ih]; rfl
theorem pieces_glue : ∀ (a : List UInt8) (ls : List (List UInt8)), (∀ x ∈ a :: ls, (47 : UInt8) ∉ x) → pieces (glue (a :: ls)) = a :: ls
  | a, [], h => pieces_free (h a (List.mem_cons_self ..))
  | a, b :: ls, h => by
    show pieces (a ++ 47 :: glue (b :: ls)) = _
    rw [pieces_cut _ (h a (List.mem_cons_self ..)), pieces_glue b ls (fun x hx => h x (List.mem_cons_of_mem _ hx))]

/-- A path's names: P2.2. -/
def parts (l : List UInt8) : List (List UInt8) := if (pieces l).length ≤ 3 ∧ (pieces l).all right = true then pieces l else []

/-- The paths of the first names. -/
def upsOf : List UInt8 → List (List UInt8) → List (List UInt8)
  | _, [] => []
  | p, a :: l => (p ++ a) :: upsOf (p ++ a ++ [47]) l
/-- A path's ups: P2.2. -/
def ups (l : List UInt8) : List (List UInt8) := upsOf [] (parts l)
/-- P2.2. -/
def under (a b : List UInt8) : Bool := decide (a ∈ ups b)

theorem upsOf_length : ∀ (p : List UInt8) (l : List (List UInt8)), (upsOf p l).length = l.length
  | _, [] => rfl
  | p, a :: l => by rw [upsOf, List.length_cons, List.length_cons, upsOf_length]
theorem ups_length (l : List UInt8) : (ups l).length = (parts l).length := upsOf_length _ _

theorem parts_le (l : List UInt8) : (parts l).length ≤ 3 := by
  unfold parts
  split
  · rename_i h; exact h.1
  · simp
theorem parts_right {l a : List UInt8} (h : a ∈ parts l) : right a = true := by
  unfold parts at h
  split at h
  · rename_i hc; exact List.all_eq_true.1 hc.2 a h
  · simp at h
theorem parts_glue {l : List UInt8} (h : parts l ≠ []) : glue (parts l) = l := by
  unfold parts at h ⊢
  split
  · exact glue_pieces l
  · rename_i hc; rw [if_neg hc] at h; exact absurd rfl h
/-- One to three names make a path, whose parts they are. -/
theorem parts_of (a : List UInt8) (ls : List (List UInt8)) (h : ∀ x ∈ a :: ls, right x = true) (hl : ls.length ≤ 2) : parts (glue (a :: ls)) = a :: ls := by
  have hp := pieces_glue a ls (fun x hx => (right_free (h x hx)).1)
  unfold parts
  rw [hp, if_pos ⟨by simp only [List.length_cons]; omega, List.all_eq_true.2 h⟩]
end Go.Proofs.YthopegokjbibmaaDoor.Word
