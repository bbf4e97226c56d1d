/- Labels as they are shown: what is shown is parsed, what is parsed is shown as it was; no program. -/
import Derived.Test.YtpkaejacnblplaaLForm
namespace Go.Proofs.Ytpkaejacnblplaa.Label
open Go.RowKit Go.Proofs.Ytpkaejacnblplaa.Word

theorem free_of (q : UInt8) (hq : q.toNat < 128) (hql : isLetter q.toNat = false) (hqi : isInner q.toNat = false) : ∀ (f : Nat) (l : List UInt8), l.length ≤ f → (∀ r ∈ runes l, isLetter r = true ∨ isInner r = true) → q ∉ l
  | 0, l, hf, _ => by
    obtain rfl : l = [] := List.eq_nil_of_length_eq_zero (by omega)
    simp
  | f + 1, l, hf, h => by
    by_cases hl : l = []
    · subst hl; simp
    have hr := runes_cons hl
    have hd := h (dec l).1 (by rw [hr]; exact List.mem_cons_self ..)
    have hlt := letter_lt hd
    have hsm := dec_small hlt.1 hl
    have hpos := dec_pos (l := l)
    have hlen : 1 ≤ l.length := List.length_pos_iff.2 hl
    have ih := free_of q hq hql hqi f (l.drop (dec l).2) (by rw [List.length_drop]; omega) (fun r hr' => h r (by rw [hr]; exact List.mem_cons_of_mem _ hr'))
    intro hm
    rw [← List.take_append_drop (dec l).2 l, List.mem_append] at hm
    rcases hm with hm | hm
    · rcases hsm.2 with ⟨h1, h2, h3⟩ | ⟨h1, h2, h3, h4, h5⟩
      · rw [h1] at hm
        cases l with
        | nil => simp at hl
        | cons c l =>
          simp only [List.take_succ_cons, List.take_zero, List.mem_singleton] at hm
          subst hm
          rw [h2] at hd
          simp only [List.getD_cons_zero] at hd
          rw [hql, hqi] at hd
          simp at hd
      · rw [h1] at hm
        match l, h5 with
        | c :: d :: l, _ =>
          simp only [List.take_succ_cons, List.take_zero, List.mem_cons, List.not_mem_nil, or_false] at hm
          simp only [List.getD_cons_zero, List.getD_cons_succ] at h3 h4
          rcases hm with rfl | rfl
          · omega
          · omega
    · exact ih hm
/-- A name has no comma, and no equals sign. -/
theorem name_free {l : List UInt8} (h : right l = true) : (44 : UInt8) ∉ l ∧ (61 : UInt8) ∉ l := by
  obtain ⟨r, rs, e, h1, h2, h3⟩ := (right_iff l).1 h
  have ha : ∀ x ∈ runes l, isLetter x = true ∨ isInner x = true := fun x hx => by
    rw [e] at hx
    rcases List.mem_cons.1 hx with rfl | hx
    · exact .inl h1
    · exact h2 x hx
  exact ⟨free_of 44 (by decide) (by decide) (by decide) l.length l (Nat.le_refl _) ha, free_of 61 (by decide) (by decide) (by decide) l.length l (Nat.le_refl _) ha⟩

theorem cutAt_none {l : List UInt8} {c : UInt8} (h : c ∉ l) : cutAt l c = (l, [], false) := by
  rcases index_cases l c with ⟨hi, _⟩ | ⟨i, hi, hlt, he, _⟩
  · exact cutAt_no hi
  · exact absurd (by rw [he]; simp) h
theorem cutAt_at {a b : List UInt8} {c : UInt8} (h : c ∉ a) : cutAt (a ++ c :: b) c = (a, b, true) := by
  rcases index_cases (a ++ c :: b) c with ⟨hi, hn⟩ | ⟨i, hi, hlt, he, hn⟩
  · exact absurd (by simp) hn
  · have hia : i = a.length := by
      rcases Nat.lt_trichotomy i a.length with hlt' | heq | hgt
      · exfalso
        apply h
        have h1 : (a ++ c :: b)[i]? = some c := (Lib.indexByte_some hi).1
        rw [List.getElem?_append_left hlt'] at h1
        exact List.mem_of_getElem? h1
      · exact heq
      · exfalso
        apply hn
        rw [List.take_append, List.take_of_length_le (by omega), List.mem_append]
        right
        rw [show i - a.length = (i - a.length - 1) + 1 by omega, List.take_succ_cons]
        exact List.mem_cons_self ..
    rw [cutAt_yes hi, hia]
    simp
theorem cutAt_back {l : List UInt8} {c : UInt8} (h : (cutAt l c).2.2 = true) : l = (cutAt l c).1 ++ c :: (cutAt l c).2.1 ∧ c ∉ (cutAt l c).1 := by
  rcases index_cases l c with ⟨hi, hn⟩ | ⟨i, hi, hlt, he, hn⟩
  · rw [cutAt_no hi] at h; cases h
  · rw [cutAt_yes hi]
    exact ⟨he, hn⟩

/-- Pairs as they are shown, commas between. -/
def joinP (ls : List Pr) : List UInt8 := Lib.join (ls.map fun x => (piece x).data.toList) [44]
theorem piece_list (x : Pr) : (piece x).data.toList = x.1.data.toList ++ 61 :: x.2.data.toList := by simp [piece]
theorem joinP_one (x : Pr) : joinP [x] = x.1.data.toList ++ 61 :: x.2.data.toList := by
  unfold joinP
  rw [← piece_list]
  simp [Lib.join, List.intercalate]
theorem joinP_more (x y : Pr) (ls : List Pr) : joinP (x :: y :: ls) = (x.1.data.toList ++ 61 :: x.2.data.toList) ++ 44 :: joinP (y :: ls) := by
  unfold joinP
  rw [← piece_list]
  simp [Lib.join, List.intercalate]
theorem piece_free {x : Pr} (h : lacks x = false) : (61 : UInt8) ∉ x.1.data.toList ∧ (44 : UInt8) ∉ x.1.data.toList ++ 61 :: x.2.data.toList := by
  unfold lacks at h
  rw [Bool.or_eq_false_iff, Bool.not_eq_false', Bool.not_eq_false'] at h
  have h1 := name_free h.1
  have h2 := name_free h.2
  refine ⟨h1.2, ?_⟩
  rw [List.mem_append, List.mem_cons]
  rintro (hm | hm | hm)
  · exact h1.1 hm
  · cases hm
  · exact h2.1 hm

theorem read_show : ∀ (x : Pr) (ls : List Pr), (∀ y ∈ x :: ls, lacks y = false) → readN onePair (ls.length + 1) (str (joinP (x :: ls))) = some (x :: ls, str []) ∧ (joinP (x :: ls)).count 44 = ls.length
  | x, [], h => by
    obtain ⟨h1, h2⟩ := piece_free (h x (List.mem_cons_self ..))
    refine ⟨?_, by rw [joinP_one]; exact List.count_eq_zero.2 h2⟩
    have ho : onePair (str (joinP [x])) = some (x, str []) := by
      unfold onePair
      rw [str_toList, joinP_one, cutAt_none h2]
      simp only
      rw [cutAt_at h1]
      simp only [if_true, str_data]
    rw [List.length_nil, readN, ho]
    rfl
  | x, y :: ls, h => by
    obtain ⟨h1, h2⟩ := piece_free (h x (List.mem_cons_self ..))
    obtain ⟨i1, i2⟩ := read_show y ls (fun z hz => h z (List.mem_cons_of_mem _ hz))
    refine ⟨?_, ?_⟩
    · have ho : onePair (str (joinP (x :: y :: ls))) = some (x, str (joinP (y :: ls))) := by
        unfold onePair
        rw [str_toList, joinP_more, cutAt_at h2]
        simp only
        rw [cutAt_at h1]
        simp only [if_true, str_data]
      rw [List.length_cons, readN, ho]
      simp only
      rw [i1]
    · rw [joinP_more, List.count_append, List.count_eq_zero.2 h2, List.count_cons, i2]
      simp
theorem mem_joinP (x : Pr) (ls : List Pr) : (61 : UInt8) ∈ joinP (x :: ls) := by
  cases ls with
  | nil => rw [joinP_one]; simp
  | cons y ls => rw [joinP_more]; simp
theorem textP_cons {x : Pr} {ls : List Pr} (h : rightL (x :: ls) = true) : textP (x :: ls) = str (joinP (x :: ls)) := by
  unfold textP
  rw [if_pos h, if_neg (by simp)]
  rfl
/-- What is shown of right labels is parsed. -/
theorem parse_text {ls : List Pr} (h : rightL ls = true) : parseL (textP ls) = some ls := by
  cases ls with
  | nil => exact parse_dash
  | cons x ls =>
    obtain ⟨h8, hn, _⟩ := rightL_parts h
    obtain ⟨i1, i2⟩ := read_show x ls hn
    rw [textP_cons h]
    unfold parseL
    rw [Lib.toList_data, str_toList, i2, i1, if_neg, if_neg (by rw [List.length_cons] at h8; omega)]
    · show (if rightL _ = true then _ else _) = _
      rw [if_pos h]
    · rw [beq_iff_eq]
      intro e
      have := mem_joinP x ls
      rw [e] at this
      simp at this

theorem read_shown : ∀ (n : Nat) (s : ByteArray) (x : List Pr × ByteArray), s.data.toList.count 44 = n → readN onePair (n + 1) s = some x → ∃ y ls, x.1 = y :: ls ∧ s.data.toList = joinP (y :: ls)
  | n, s, x, hc, h => by
    unfold readN at h
    split at h
    · simp at h
    rename_i y hy
    split at h
    · simp at h
    rename_i z hz
    simp only [Option.some.injEq] at h
    subst h
    unfold onePair at hy
    split at hy
    · rename_i h61
      simp only [Option.some.injEq] at hy
      subst hy
      obtain ⟨e1, _⟩ := cutAt_back h61
      by_cases h44 : (cutAt s.data.toList 44).2.2 = true
      · obtain ⟨e2, hf⟩ := cutAt_back h44
        have hc2 : s.data.toList.count 44 = (cutAt s.data.toList 44).2.1.count 44 + 1 := by
          conv => lhs; rw [e2]
          rw [List.count_append, List.count_eq_zero.2 hf, List.count_cons]
          simp
        cases n with
        | zero => omega
        | succ n =>
          obtain ⟨u, us, k1, k2⟩ := read_shown n _ z (by rw [str_toList]; omega) hz
          refine ⟨_, z.1, rfl, ?_⟩
          rw [k1, joinP_more, ← k2]
          simp only [str_toList]
          rw [← e1]
          exact e2
      · have hn : (44 : UInt8) ∉ s.data.toList := by
          rcases index_cases s.data.toList 44 with ⟨hi, hn⟩ | ⟨i, hi, hlt, he, hn⟩
          · exact hn
          · rw [cutAt_yes hi] at h44; exact absurd rfl h44
        rw [List.count_eq_zero.2 hn] at hc
        subst hc
        simp [readN] at hz
        subst hz
        refine ⟨_, [], rfl, ?_⟩
        rw [joinP_one]
        simp only [str_toList]
        rw [← e1, cutAt_none hn]
    · simp at hy
/-- What is parsed is right, and is shown as it was. -/
theorem parse_back {s : ByteArray} {ls : List Pr} (h : parseL s = some ls) : rightL ls = true ∧ textP ls = s := by
  unfold parseL at h
  split at h
  · rename_i hd
    simp only [Option.some.injEq] at h
    subst h
    refine ⟨rfl, ?_⟩
    rw [text_none, ← str_data s, ← Lib.toList_data, beq_iff_eq.1 hd]
    rfl
  split at h
  · simp at h
  unfold keepRight at h
  split at h
  · simp at h
  rename_i x hx
  split at h
  · rename_i hr
    simp only [Option.some.injEq] at h
    subst h
    obtain ⟨y, ls, h1, h2⟩ := read_shown _ s x rfl hx
    refine ⟨hr, ?_⟩
    rw [h1] at hr ⊢
    rw [textP_cons hr, ← h2, str_data]
  · simp at h
theorem textP_inj {a b : List Pr} (ha : rightL a = true) (hb : rightL b = true) (h : textP a = textP b) : a = b := by
  have g1 := parse_text ha
  have g2 := parse_text hb
  rw [h, g2] at g1
  simpa using g1.symm
theorem textP_le {a : List Pr} : (textP a).size ≤ 600 := by
  unfold textP
  split
  · rename_i h
    split
    · show 1 ≤ 600; omega
    · obtain ⟨h8, hn, _⟩ := rightL_parts h
      have := join_len (a.map fun x => (piece x).data.toList) (fun y hy => by
        obtain ⟨x, hx, rfl⟩ := List.mem_map.1 hy
        rw [size_list]; exact piece_size x (hn x hx))
      show (Lib.join _ _).toArray.size ≤ 600
      simp at this ⊢
      omega
  · show 1 ≤ 600; omega
/-- What is shown of right labels is no question mark. -/
theorem textP_ne {a : List Pr} (ha : rightL a = true) : textP a ≠ ⟨#[63]⟩ := by
  cases a with
  | nil => rw [text_none]; decide
  | cons x ls =>
    rw [textP_cons ha]
    intro e
    have h1 := mem_joinP x ls
    rw [← str_toList (joinP (x :: ls)), e] at h1
    simp at h1
end Go.Proofs.Ytpkaejacnblplaa.Label
