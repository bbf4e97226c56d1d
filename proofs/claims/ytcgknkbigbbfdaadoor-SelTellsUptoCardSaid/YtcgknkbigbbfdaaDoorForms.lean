/- Plain facts on texts as bytes, whatever they are of: a text's form where it stands, what stands between a byte, which bytes a name lacks; no program. -/
import Derived.Test.YtcgknkbigbbfdaaDoorText
import Derived.Test.YtcgknkbigbbfdaaDoorWMath
namespace Go.Proofs.YtcgknkbigbbfdaaDoor.Forms
open Go.Proofs.YtcgknkbigbbfdaaDoor.Word

/-- The bytes of a text's form. -/
def flat (t : ByteArray) : List UInt8 := Wire.putL t.size ++ t.data.toList
theorem flat_len (t : ByteArray) : (flat t).length = (Wire.putL t.size).length + t.size := by rw [flat, List.length_append, size_list]
theorem textV_of {l : List UInt8} {p : Nat} {t : ByteArray} {r : List UInt8} (ht : t.size ≤ 32) (h : l.drop p = flat t ++ r) :
    Wire.textV l (p : Int) 32 = some (p + (Wire.putL t.size).length, p + (flat t).length) := by
  have hs : Wire.Stands t.size (l.drop p) := ⟨by omega, t.data.toList ++ r, by rw [h, flat, List.append_assoc]⟩
  have hlen := congrArg List.length h
  have hpos := Wire.putL_pos t.size
  have hf := flat_len t
  rw [List.length_drop, List.length_append, hf] at hlen
  unfold Wire.textV
  rw [Wire.getV_of hs]
  simp only
  rw [if_neg (by omega), hf, Nat.add_assoc]
theorem extract_of {s : ByteArray} {p : Nat} {t : ByteArray} {r : List UInt8} (h : s.data.toList.drop p = flat t ++ r) : s.extract (p + (Wire.putL t.size).length) (p + (flat t).length) = t := by
  have hf : (flat t).length = (Wire.putL t.size).length + t.data.toList.length := by rw [flat, List.length_append]
  apply ByteArray.ext
  apply Array.toList_inj.1
  rw [Lib.extract_data, ← List.drop_drop, h, flat, List.append_assoc, List.drop_left]
  rw [← flat, show p + (flat t).length - (p + (Wire.putL t.size).length) = t.data.toList.length by omega, List.take_left]

theorem flat_extract {s : ByteArray} {p : Int} {a b : Nat} (h : Wire.textV s.data.toList p 32 = some (a, b)) :
    0 ≤ p ∧ p.toNat ≤ b ∧ b ≤ s.size ∧ s.data.toList.drop p.toNat = flat (s.extract a b) ++ s.data.toList.drop b := by
  unfold Wire.textV at h
  split at h
  · simp at h
  rename_i x hg
  split at h
  · simp at h
  rename_i hc
  obtain ⟨u, n⟩ := x
  simp only [Option.some.injEq, Prod.mk.injEq] at h hc
  obtain ⟨rfl, rfl⟩ := h
  obtain ⟨_, hlt, hle, hp, hn, _, r, hr⟩ := Wire.getV_lt hg
  rw [size_list] at hc hle
  have hd : s.data.toList.drop n = r := by rw [hn, ← List.drop_drop, hr, List.drop_left]
  refine ⟨hp, by omega, by omega, ?_⟩
  have hsz : (s.extract n (n + u)).size = u := by rw [ByteArray.size_extract]; omega
  rw [flat, hsz, Lib.extract_data, hd, Nat.add_sub_cancel_left, ← List.drop_drop, hd, List.append_assoc, List.take_append_drop]
  exact hr
theorem free_of (q : UInt8) (hq : q.toNat < 128) (hql : isLetter q.toNat = false) (hqi : isInner q.toNat = false) : ∀ (f : Nat) (l : List UInt8), l.length ≤ f → (∀ r ∈ runes l, isLetter r = true ∨ isInner r = true) → q ∉ l
  | 0, l, hf, _ => by
    obtain rfl : l = [] := List.eq_nil_of_length_eq_zero (by omega)
    simp
  | f + 1, l, hf, h => by
    by_cases hl : l = []
    · subst hl; simp
    have hr := runes_cons hl
    have hd := h (dec l).1 (by rw [hr]; exact List.mem_cons_self ..)
    have hlt := letter_lt hd
    have hsm := dec_small hlt.1 hl
    have hpos := dec_pos (l := l)
    have hlen : 1 ≤ l.length := List.length_pos_iff.2 hl
    have ih := free_of q hq hql hqi f (l.drop (dec l).2) (by rw [List.length_drop]; omega) (fun r hr' => h r (by rw [hr]; exact List.mem_cons_of_mem _ hr'))
    intro hm
    rw [← List.take_append_drop (dec l).2 l, List.mem_append] at hm
    rcases hm with hm | hm
    · rcases hsm.2 with ⟨h1, h2, h3⟩ | ⟨h1, h2, h3, h4, h5⟩
      · rw [h1] at hm
        cases l with
        | nil => simp at hl
        | cons c l =>
          simp only [List.take_succ_cons, List.take_zero, List.mem_singleton] at hm
          subst hm
          rw [h2] at hd
          simp only [List.getD_cons_zero] at hd
          rw [hql, hqi] at hd
          simp at hd
      · rw [h1] at hm
        match l, h5 with
        | c :: d :: l, _ =>
          simp only [List.take_succ_cons, List.take_zero, List.mem_cons, List.not_mem_nil, or_false] at hm
          simp only [List.getD_cons_zero, List.getD_cons_succ] at h3 h4
          rcases hm with rfl | rfl
          · omega
          · omega
    · exact ih hm
/-- A name lacks every byte that is no letter, digit or dash. -/
theorem name_lacks (q : UInt8) (hq : q.toNat < 128) (hql : isLetter q.toNat = false) (hqi : isInner q.toNat = false) {l : List UInt8} (h : right l = true) : q ∉ l := by
  obtain ⟨r, rs, e, h1, h2, h3⟩ := (right_iff l).1 h
  refine free_of q hq hql hqi l.length l (Nat.le_refl _) fun x hx => ?_
  rw [e] at hx
  rcases List.mem_cons.1 hx with rfl | hx
  · exact .inl h1
  · exact h2 x hx
theorem name_some {l : List UInt8} (h : right l = true) : l ≠ [] := by
  rintro rfl
  rw [right_nil] at h
  cases h

/-- What stands between a byte. -/
def cuts (c : UInt8) : List UInt8 → List (List UInt8)
  | [] => [[]]
  | d :: l => if d = c then [] :: cuts c l else (d :: (cuts c l).headD []) :: (cuts c l).tail
theorem cuts_ne (c : UInt8) (l : List UInt8) : cuts c l ≠ [] := by
  cases l with
  | nil => simp [cuts]
  | cons d l => unfold cuts; split <;> simp
theorem cuts_free {c : UInt8} : ∀ {l : List UInt8}, c ∉ l → cuts c l = [l]
  | [], _ => rfl
  | d :: l, h => by
    have h1 : d ≠ c := fun e => h (by rw [e]; exact List.mem_cons_self ..)
    have h2 := cuts_free (l := l) (fun hm => h (List.mem_cons_of_mem _ hm))
    rw [cuts, if_neg h1, h2]
    rfl
theorem cuts_cut {c : UInt8} : ∀ {a : List UInt8} (b : List UInt8), c ∉ a → cuts c (a ++ c :: b) = a :: cuts c b
  | [], b, _ => by simp [cuts]
  | d :: a, b, h => by
    have h1 : d ≠ c := fun e => h (by rw [e]; exact List.mem_cons_self ..)
    have h2 := cuts_cut (a := a) b (fun hm => h (List.mem_cons_of_mem _ hm))
    rw [List.cons_append, cuts, if_neg h1, h2]
    rfl
def glueC (c : UInt8) : List (List UInt8) → List UInt8
  | [] => []
  | [a] => a
  | a :: b :: l => a ++ c :: glueC c (b :: l)
theorem glue_cuts (c : UInt8) : ∀ (l : List UInt8), glueC c (cuts c l) = l
  | [] => rfl
  | d :: l => by
    have ih := glue_cuts c l
    have hne := cuts_ne c l
    unfold cuts
    cases hp : cuts c l with
    | nil => exact absurd hp hne
    | cons p ps =>
      rw [hp] at ih
      split
      · rename_i h
        subst h
        show [] ++ d :: glueC d (p :: ps) = _
        rw [ih]; rfl
      · simp only [List.headD_cons, List.tail_cons]
        cases ps with
        | nil => show d :: p = _; rw [← ih]; rfl
        | cons q ps => show d :: p ++ c :: glueC c (q :: ps) = _; rw [← ih]; rfl

theorem cuts_glue (c : UInt8) : ∀ (a : List UInt8) (ls : List (List UInt8)), (∀ x ∈ a :: ls, c ∉ x) → cuts c (glueC c (a :: ls)) = a :: ls
  | a, [], h => cuts_free (h a (List.mem_cons_self ..))
  | a, b :: ls, h => by
    show cuts c (a ++ c :: glueC c (b :: ls)) = _
    rw [cuts_cut _ (h a (List.mem_cons_self ..)), cuts_glue c b ls (fun x hx => h x (List.mem_cons_of_mem _ hx))]
theorem cuts_len (c : UInt8) : ∀ (l : List UInt8), (cuts c l).length ≤ l.length + 1 ∧ ∀ t ∈ cuts c l, t.length ≤ l.length
  | [] => by simp [cuts]
  | d :: l => by
    obtain ⟨h1, h2⟩ := cuts_len c l
    have hne := cuts_ne c l
    unfold cuts
    cases hp : cuts c l with
    | nil => exact absurd hp hne
    | cons p ps =>
      rw [hp] at h1 h2
      split
      · refine ⟨by simp at h1 ⊢; omega, fun t ht => ?_⟩
        rcases List.mem_cons.1 ht with rfl | ht
        · simp
        · have := h2 t ht; simp; omega
      · simp only [List.headD_cons, List.tail_cons]
        refine ⟨by simp at h1 ⊢; omega, fun t ht => ?_⟩
        rcases List.mem_cons.1 ht with rfl | ht
        · have := h2 p (List.mem_cons_self ..); simp; omega
        · have := h2 t (List.mem_cons_of_mem _ ht); simp; omega


/-! ### so many, one behind the other -/

/-- So many items, one behind the other, from a place on. -/
def readN {α π : Type} (one : π → Option (α × π)) : Nat → π → Option (List α × π)
  | 0, p => some ([], p)
  | n + 1, p => match one p with
    | none => none
    | some x => match readN one n x.2 with
      | none => none
      | some y => some (x.1 :: y.1, y.2)
def ahead {α π : Type} (done : List α) : Option (List α × π) → Option (List α × π)
  | none => none
  | some x => some (done ++ x.1, x.2)
theorem ahead_nil {α π : Type} (r : Option (List α × π)) : ahead [] r = r := by cases r <;> rfl
theorem readN_go {α π : Type} {one : π → Option (α × π)} {n : Nat} {p q : π} {x : α} {done : List α} (h : one p = some (x, q)) : ahead done (readN one (n + 1) p) = ahead (done ++ [x]) (readN one n q) := by
  rw [readN, h]
  simp only
  cases readN one n q with
  | none => rfl
  | some y => simp [ahead]
theorem readN_stop {α π : Type} {one : π → Option (α × π)} {n : Nat} {p : π} {done : List α} (h : one p = none) : ahead done (readN one (n + 1) p) = none := by
  rw [readN, h]; rfl
theorem readN_len {α π : Type} {one : π → Option (α × π)} : ∀ {n : Nat} {p : π} {x : List α × π}, readN one n p = some x → x.1.length = n
  | 0, p, x, h => by simp [readN] at h; subst h; rfl
  | n + 1, p, x, h => by
    unfold readN at h
    split at h
    · simp at h
    · split at h
      · simp at h
      · rename_i y hy
        simp at h; subst h
        simp [readN_len hy]

/-- What is read where forms stand. -/
theorem readN_of {α : Type} {one : Int → Option (α × Int)} {form : α → List UInt8} {L : List UInt8} {ok : α → Prop}
    (h1 : ∀ (p : Nat) (x : α) (r : List UInt8), ok x → L.drop p = form x ++ r → one (p : Int) = some (x, ((p + (form x).length : Nat) : Int))) :
    ∀ (xs : List α) (p : Nat) (r : List UInt8), (∀ x ∈ xs, ok x) → L.drop p = xs.flatMap form ++ r → readN one xs.length (p : Int) = some (xs, ((p + (xs.flatMap form).length : Nat) : Int))
  | [], p, r, _, _ => by simp [readN]
  | x :: xs, p, r, hok, h => by
    rw [List.flatMap_cons, List.append_assoc] at h
    have h2 : L.drop (p + (form x).length) = xs.flatMap form ++ r := by rw [← List.drop_drop, h, List.drop_left]
    rw [List.length_cons, readN, h1 p x _ (hok x (List.mem_cons_self ..)) h]
    simp only
    rw [readN_of h1 xs _ r (fun y hy => hok y (List.mem_cons_of_mem _ hy)) h2]
    simp only [List.flatMap_cons, List.length_append, Nat.add_assoc]
/-- What was read stands there. -/
theorem readN_back {α : Type} {one : Int → Option (α × Int)} {form : α → List UInt8} {L : List UInt8}
    (h1 : ∀ (p : Nat) (x : α × Int), p ≤ L.length → one (p : Int) = some x → ∃ q : Nat, x.2 = (q : Int) ∧ p ≤ q ∧ q ≤ L.length ∧ L.drop p = form x.1 ++ L.drop q) :
    ∀ (n p : Nat) (x : List α × Int), p ≤ L.length → readN one n (p : Int) = some x → ∃ q : Nat, x.2 = (q : Int) ∧ p ≤ q ∧ q ≤ L.length ∧ L.drop p = x.1.flatMap form ++ L.drop q
  | 0, p, x, hp, h => by
    simp [readN] at h
    subst h
    exact ⟨p, rfl, Nat.le_refl _, hp, by simp⟩
  | n + 1, p, x, hp, h => by
    unfold readN at h
    split at h
    · simp at h
    rename_i y hy
    split at h
    · simp at h
    rename_i z hz
    simp only [Option.some.injEq] at h
    subst h
    obtain ⟨q, g1, g2, g3, g4⟩ := h1 p y hp hy
    rw [g1] at hz
    obtain ⟨q', k1, k2, k3, k4⟩ := readN_back h1 n q z g3 hz
    exact ⟨q', k1, by omega, k3, by rw [g4, k4, List.flatMap_cons, List.append_assoc]⟩

/-- A text of at most so many bytes, and the place behind it. -/
def oneText (s : ByteArray) (p : Int) : Option (ByteArray × Int) := match Wire.textV s.data.toList p 32 with
  | none => none
  | some a => some (s.extract a.1 a.2, (a.2 : Int))
theorem oneText_of {s : ByteArray} (p : Nat) (t : ByteArray) (r : List UInt8) (ht : t.size ≤ 32) (h : s.data.toList.drop p = flat t ++ r) : oneText s (p : Int) = some (t, ((p + (flat t).length : Nat) : Int)) := by
  unfold oneText
  rw [textV_of ht h]
  simp only
  rw [extract_of h]
theorem oneText_back {s : ByteArray} (p : Nat) (x : ByteArray × Int) (_ : p ≤ s.data.toList.length) (h : oneText s (p : Int) = some x) : ∃ q : Nat, x.2 = (q : Int) ∧ p ≤ q ∧ q ≤ s.data.toList.length ∧ s.data.toList.drop p = flat x.1 ++ s.data.toList.drop q := by
  unfold oneText at h
  split at h
  · simp at h
  rename_i a ha
  simp only [Option.some.injEq] at h
  subst h
  obtain ⟨_, h2, h3, h4⟩ := flat_extract (a := a.1) (b := a.2) ha
  simp only [Int.toNat_natCast] at h2 h4
  exact ⟨a.2, rfl, h2, by rw [size_list]; exact h3, h4⟩
end Go.Proofs.YtcgknkbigbbfdaaDoor.Forms
