/- The plain mathematics of selectors (P5.1 to P5.5): which are right, their forms as bytes and as text, and that each is told back; no program. -/
import Derived.Test.YtcgknkbigbbfdaaDoorForms
namespace Go.Proofs.YtcgknkbigbbfdaaDoor.Sel
open Go.Proofs.YtcgknkbigbbfdaaDoor.Word Go.Proofs.YtcgknkbigbbfdaaDoor.Forms

/-- A term: its key, whether it is turned, its values. -/
abbrev Tm := ByteArray × Bool × List ByteArray
def lessB (x y : ByteArray) : Bool := Op.bytesLess x.toList y.toList
def risesV : List ByteArray → Bool
  | x :: y :: r => lessB x y && risesV (y :: r)
  | _ => true
def rightT (t : Tm) : Bool := right t.1.data.toList && (decide (t.2.2.length ≤ 4) && (t.2.2.all (fun v => right v.data.toList) && risesV t.2.2))
/-- A right selector: P5.1. -/
def rightS (ls : List Tm) : Bool := decide (ls.length ≤ 4) && ls.all rightT
/-- Does a term hold, by what is found of its key? P5.2. -/
def holdsT (r : Option ByteArray) (t : Tm) : Bool := (match r with
  | none => false
  | some v => t.2.2.isEmpty || t.2.2.any (fun x => x.toList == v.toList)) != t.2.1
def matchS (find : ByteArray → Option ByteArray) (ls : List Tm) : Bool := ls.all fun t => holdsT (find t.1) t

theorem rightT_parts {t : Tm} (h : rightT t = true) : right t.1.data.toList = true ∧ t.2.2.length ≤ 4 ∧ (∀ v ∈ t.2.2, right v.data.toList = true) ∧ risesV t.2.2 = true := by
  unfold rightT at h
  rw [Bool.and_eq_true, Bool.and_eq_true, Bool.and_eq_true, decide_eq_true_eq, List.all_eq_true] at h
  exact ⟨h.1, h.2.1, h.2.2.1, h.2.2.2⟩
theorem rightS_parts {ls : List Tm} (h : rightS ls = true) : ls.length ≤ 4 ∧ ∀ t ∈ ls, rightT t = true := by
  unfold rightS at h
  rw [Bool.and_eq_true, decide_eq_true_eq, List.all_eq_true] at h
  exact h
theorem name_size {t : ByteArray} (h : right t.data.toList = true) : t.size ≤ 32 := by rw [← size_list]; exact (right_free h).2

/-! ### as bytes -/

def numT (t : Tm) : Nat := 2 * t.2.2.length + (if t.2.1 = true then 1 else 0)
def formT (t : Tm) : List UInt8 := flat t.1 ++ (Wire.putL (numT t) ++ t.2.2.flatMap flat)
/-- The form of a selector: P5.3. -/
def putS (ls : List Tm) : ByteArray := if rightS ls = true then str (Wire.putL ls.length ++ ls.flatMap formT) else ⟨#[]⟩
def oneT (s : ByteArray) (p : Int) : Option (Tm × Int) := match oneText s p with
  | none => none
  | some k => match Wire.getV s.data.toList k.2 with
    | none => none
    | some n => if 9 < n.1 then none else match readN (oneText s) (n.1 / 2) (n.2 : Int) with
      | none => none
      | some vs => some ((k.1, decide (n.1 % 2 = 1), vs.1), vs.2)
def keepS : Option (List Tm × Int) → Option (List Tm × Int)
  | none => none
  | some x => if rightS x.1 = true then some x else none
/-- The selector whose form stands at a place, and the place behind: P5.3. -/
def getS (s : ByteArray) (p : Int) : Option (List Tm × Int) := match Wire.getV s.data.toList p with
  | none => none
  | some a => if 4 < a.1 then none else keepS (readN (oneT s) a.1 a.2)

theorem numT_half (t : Tm) : numT t / 2 = t.2.2.length := by unfold numT; split <;> omega
theorem numT_odd (t : Tm) : decide (numT t % 2 = 1) = t.2.1 := by
  unfold numT
  cases t.2.1
  · simp
  · simp
theorem oneT_of {s : ByteArray} (p : Nat) (t : Tm) (r : List UInt8) (ht : rightT t = true) (h : s.data.toList.drop p = formT t ++ r) : oneT s (p : Int) = some (t, ((p + (formT t).length : Nat) : Int)) := by
  obtain ⟨h1, h2, h3, _⟩ := rightT_parts ht
  unfold formT at h
  rw [List.append_assoc, List.append_assoc] at h
  have hn9 : numT t ≤ 9 := by unfold numT; split <;> omega
  unfold oneT
  rw [oneText_of p t.1 _ (name_size h1) h]
  simp only
  have e1 : s.data.toList.drop (p + (flat t.1).length) = Wire.putL (numT t) ++ (t.2.2.flatMap flat ++ r) := by rw [← List.drop_drop, h, List.drop_left]
  rw [Wire.getV_of (u := numT t) ⟨by omega, _, e1⟩]
  simp only
  have e2 : s.data.toList.drop (p + (flat t.1).length + (Wire.putL (numT t)).length) = t.2.2.flatMap flat ++ r := by rw [← List.drop_drop, e1, List.drop_left]
  rw [if_neg (by omega), numT_half, readN_of (form := flat) (ok := fun v => v.size ≤ 32) (fun p x r hx hd => oneText_of p x r hx hd) t.2.2 _ r (fun v hv => name_size (h3 v hv)) e2]
  simp only [numT_odd, formT, List.length_append, Nat.add_assoc]
theorem oneT_back {s : ByteArray} (p : Nat) (x : Tm × Int) (hp : p ≤ s.data.toList.length) (h : oneT s (p : Int) = some x) : ∃ q : Nat, x.2 = (q : Int) ∧ p ≤ q ∧ q ≤ s.data.toList.length ∧ s.data.toList.drop p = formT x.1 ++ s.data.toList.drop q := by
  unfold oneT at h
  split at h
  · simp at h
  rename_i k hk
  obtain ⟨q1, a1, a2, a3, a4⟩ := oneText_back p k hp hk
  rw [a1] at h
  split at h
  · simp at h
  rename_i n hn
  split at h
  · simp at h
  split at h
  · simp at h
  rename_i vs hvs
  simp only [Option.some.injEq] at h
  subst h
  obtain ⟨_, b1, b2, _, b4, _, r, b5⟩ := Wire.getV_lt (u := n.1) (n := n.2) hn
  simp only [Int.toNat_natCast] at b1 b4 b5
  obtain ⟨q, c1, c2, c3, c4⟩ := readN_back (form := flat) oneText_back (n.1 / 2) n.2 vs b2 hvs
  have hlen := readN_len hvs
  have hd : s.data.toList.drop n.2 = r := by rw [b4, ← List.drop_drop, b5, List.drop_left]
  have hnum : numT (k.1, decide (n.1 % 2 = 1), vs.1) = n.1 := by
    unfold numT
    simp only [hlen, decide_eq_true_eq]
    split <;> omega
  refine ⟨q, c1, by omega, c3, ?_⟩
  unfold formT
  rw [hnum, List.append_assoc, List.append_assoc, ← c4, hd, ← b5]
  exact a4

theorem putS_list {ls : List Tm} (h : rightS ls = true) : (putS ls).data.toList = Wire.putL ls.length ++ ls.flatMap formT := by
  unfold putS
  rw [if_pos h, str_toList]
/-- What is put of a right selector is got where it stands. -/
theorem get_put {s : ByteArray} {p : Nat} {ls : List Tm} {r : List UInt8} (hr : rightS ls = true) (h : s.data.toList.drop p = (putS ls).data.toList ++ r) :
    getS s (p : Int) = some (ls, ((p + (putS ls).size : Nat) : Int)) := by
  obtain ⟨h4, ht⟩ := rightS_parts hr
  rw [putS_list hr, List.append_assoc] at h
  unfold getS
  rw [Wire.getV_of (u := ls.length) ⟨by omega, _, h⟩]
  simp only
  rw [if_neg (by omega), readN_of (form := formT) (ok := fun t => rightT t = true) (fun p x r hx hd => oneT_of p x r hx hd) ls (p + (Wire.putL ls.length).length) r ht (by rw [← List.drop_drop, h, List.drop_left])]
  show (if rightS ls = true then _ else _) = _
  rw [if_pos hr, ← size_list (putS ls), putS_list hr, List.length_append, Nat.add_assoc]
/-- What is got is right, and is put as the bytes that stand there. -/
theorem get_back {s : ByteArray} {p : Int} {ls : List Tm} {n : Int} (h : getS s p = some (ls, n)) :
    rightS ls = true ∧ ∃ a b : Nat, p = (a : Int) ∧ n = (b : Int) ∧ a ≤ b ∧ b ≤ s.size ∧ putS ls = s.extract a b := by
  unfold getS at h
  split at h
  · simp at h
  rename_i x hg
  split at h
  · simp at h
  obtain ⟨u, q⟩ := x
  obtain ⟨_, hlt, hle, hp, hq, _, r, hr⟩ := Wire.getV_lt hg
  obtain ⟨a, rfl⟩ := Int.eq_ofNat_of_zero_le hp
  simp only [Int.toNat_natCast] at hlt hq hr
  unfold keepS at h
  split at h
  · simp at h
  rename_i y hy
  split at h
  · rename_i hri
    simp only [Option.some.injEq] at h
    subst h
    obtain ⟨b, h1, h2, h3, h4⟩ := readN_back (form := formT) oneT_back u q _ hle hy
    have hul := readN_len hy
    rw [size_list] at h3
    refine ⟨hri, a, b, rfl, h1, by omega, h3, ?_⟩
    have hd : s.data.toList.drop q = r := by rw [hq, ← List.drop_drop, hr, List.drop_left]
    have hd2 : s.data.toList.drop a = (putS ls).data.toList ++ s.data.toList.drop b := by
      rw [putS_list hri, List.append_assoc, ← h4, hr, hd]
      simp only at hul
      rw [hul]
    apply ByteArray.ext
    apply Array.toList_inj.1
    have hlen := congrArg List.length hd2
    rw [List.length_drop, List.length_append, List.length_drop, size_list s] at hlen
    rw [Lib.extract_data, hd2, show b - a = (putS ls).data.toList.length by omega, List.take_left]
  · simp at h
theorem putS_inj {a b : List Tm} (ha : rightS a = true) (hb : rightS b = true) (h : putS a = putS b) : a = b := by
  have g1 := get_put (s := putS a) (p := 0) (r := []) ha (by simp)
  have g2 := get_put (s := putS b) (p := 0) (r := []) hb (by simp)
  rw [h, g2] at g1
  simp only [Option.some.injEq, Prod.mk.injEq] at g1
  exact g1.1.symm
theorem putS_pos {a : List Tm} (ha : rightS a = true) : 0 < (putS a).size := by
  rw [← size_list, putS_list ha, List.length_append]
  have := Wire.putL_pos a.length
  omega
theorem putS_no {a : List Tm} (ha : rightS a = false) : putS a = ⟨#[]⟩ := by
  unfold putS
  rw [if_neg (by rw [ha]; simp)]

/-! ### as text -/

/-- A term as it is shown. -/
def showT (t : Tm) : List UInt8 :=
  if t.2.2 = [] then (if t.2.1 = true then 33 :: t.1.data.toList else t.1.data.toList)
  else t.1.data.toList ++ ((if t.2.1 = true then [33] else []) ++ 61 :: glueC 124 (t.2.2.map fun v => v.data.toList))
/-- A selector as it is shown: P5.4. -/
def textS (ls : List Tm) : ByteArray := if rightS ls = true then (if ls = [] then ⟨#[45]⟩ else str (glueC 44 (ls.map showT))) else ⟨#[63]⟩
def twoT : List (List UInt8) → Option (List UInt8 × List UInt8)
  | [a, b] => some (a, b)
  | _ => none
/-- A term of a text. -/
def readT (q : List UInt8) : Tm :=
  if q.head? = some 33 then (str q.tail, true, []) else
  match twoT (cuts 61 q) with
  | none => (str q, false, [])
  | some x => if x.1.getLast? = some 33 then (str x.1.dropLast, true, (cuts 124 x.2).map str) else (str x.1, false, (cuts 124 x.2).map str)
/-- The right selector whose text that is: P5.4. -/
def parseS (s : ByteArray) : Option (List Tm) :=
  if s = ⟨#[45]⟩ then some [] else
  if rightS ((cuts 44 s.data.toList).map readT) = true ∧ textS ((cuts 44 s.data.toList).map readT) = s then some ((cuts 44 s.data.toList).map readT) else none

theorem mem_glue {c x : UInt8} : ∀ {ls : List (List UInt8)}, x ∈ glueC c ls → x = c ∨ ∃ l ∈ ls, x ∈ l
  | [], h => by simp [glueC] at h
  | [a], h => .inr ⟨a, by simp, h⟩
  | a :: b :: ls, h => by
    rcases List.mem_append.1 (show x ∈ a ++ c :: glueC c (b :: ls) from h) with h | h
    · exact .inr ⟨a, by simp, h⟩
    · rcases List.mem_cons.1 h with h | h
      · exact .inl h
      · rcases mem_glue h with h | ⟨l, h1, h2⟩
        · exact .inl h
        · exact .inr ⟨l, List.mem_cons_of_mem _ h1, h2⟩
theorem glue_lacks {c x : UInt8} {vs : List ByteArray} (hx : x.toNat < 128) (hl : isLetter x.toNat = false) (hi : isInner x.toNat = false) (hne : x ≠ c) (h : ∀ v ∈ vs, right v.data.toList = true) : x ∉ glueC c (vs.map fun v => v.data.toList) := by
  intro hm
  rcases mem_glue hm with e | ⟨l, h1, h2⟩
  · exact hne e
  · obtain ⟨v, hv, rfl⟩ := List.mem_map.1 h1
    exact name_lacks x hx hl hi (h v hv) h2
theorem str_all (vs : List ByteArray) : (vs.map fun v => v.data.toList).map str = vs := by
  rw [List.map_map]
  conv => rhs; rw [← List.map_id vs]
  apply List.map_congr_left
  intro v _
  exact str_data v
theorem head_not {l : List UInt8} {r : List UInt8} (h : right l = true) : (l ++ r).head? ≠ some 33 := by
  cases l with
  | nil => exact absurd rfl (name_some h)
  | cons d l =>
    intro e
    simp at e
    subst e
    exact name_lacks 33 (by decide) (by decide) (by decide) h (List.mem_cons_self ..)
/-- What is shown of a term is read as it. -/
theorem readT_show {t : Tm} (ht : rightT t = true) : readT (showT t) = t := by
  obtain ⟨h1, _, h3, _⟩ := rightT_parts ht
  obtain ⟨k, n, vs⟩ := t
  simp only at h1 h3
  have hk61 : (61 : UInt8) ∉ k.data.toList := name_lacks 61 (by decide) (by decide) (by decide) h1
  have hk33 : (33 : UInt8) ∉ k.data.toList := name_lacks 33 (by decide) (by decide) (by decide) h1
  cases vs with
  | nil =>
    cases n with
    | true =>
      have e : showT (k, true, []) = 33 :: k.data.toList := by unfold showT; simp
      rw [e]
      unfold readT
      rw [if_pos (by simp)]
      simp [str_data]
    | false =>
      have e : showT (k, false, []) = k.data.toList := by unfold showT; simp
      rw [e]
      unfold readT
      rw [if_neg (by have := head_not (r := []) h1; rwa [List.append_nil] at this), cuts_free hk61]
      simp [twoT, str_data]
  | cons v vs =>
    have hv61 := glue_lacks (x := 61) (c := 124) (vs := v :: vs) (by decide) (by decide) (by decide) (by decide) h3
    have hcut : cuts 124 (glueC 124 ((v :: vs).map fun v => v.data.toList)) = (v :: vs).map fun v => v.data.toList := by
      rw [List.map_cons]
      refine cuts_glue 124 _ _ fun x hx => ?_
      obtain ⟨u, hu, rfl⟩ := List.mem_map.1 (show x ∈ (v :: vs).map (fun v => v.data.toList) from hx)
      exact name_lacks 124 (by decide) (by decide) (by decide) (h3 u hu)
    have hhead : ∀ r, (k.data.toList ++ r).head? ≠ some 33 := fun r => head_not h1
    cases n with
    | true =>
      have e : showT (k, true, v :: vs) = k.data.toList ++ [33] ++ 61 :: glueC 124 ((v :: vs).map fun v => v.data.toList) := by unfold showT; rw [if_neg (by simp)]; simp
      rw [e]
      unfold readT
      rw [if_neg (by rw [List.append_assoc]; exact hhead _), cuts_cut _ (by rw [List.mem_append, List.mem_singleton]; rintro (h | h); exact hk61 h; exact absurd h (by decide)), cuts_free hv61]
      simp only [twoT]
      rw [if_pos (by simp), hcut, str_all]
      simp [str_data]
    | false =>
      have e : showT (k, false, v :: vs) = k.data.toList ++ 61 :: glueC 124 ((v :: vs).map fun v => v.data.toList) := by unfold showT; rw [if_neg (by simp)]; simp
      rw [e]
      unfold readT
      rw [if_neg (hhead _), cuts_cut _ hk61, cuts_free hv61]
      simp only [twoT]
      rw [if_neg (by intro e; exact hk33 (List.mem_of_getLast? e)), hcut, str_all, str_data]
theorem showT_lacks {t : Tm} (ht : rightT t = true) : (44 : UInt8) ∉ showT t := by
  obtain ⟨h1, _, h3, _⟩ := rightT_parts ht
  have hk : (44 : UInt8) ∉ t.1.data.toList := name_lacks 44 (by decide) (by decide) (by decide) h1
  have hv := glue_lacks (x := 44) (c := 124) (vs := t.2.2) (by decide) (by decide) (by decide) (by decide) h3
  unfold showT
  split
  · split
    · rw [List.mem_cons]
      rintro (h | h)
      · cases h
      · exact hk h
    · exact hk
  · rw [List.mem_append, List.mem_append, List.mem_cons]
    rintro (h | h | h | h)
    · exact hk h
    · split at h
      · rw [List.mem_singleton] at h; cases h
      · cases h
    · cases h
    · exact hv h
theorem textS_cons {t : Tm} {ls : List Tm} (h : rightS (t :: ls) = true) : textS (t :: ls) = str (glueC 44 ((t :: ls).map showT)) := by
  unfold textS
  rw [if_pos h, if_neg (by simp)]
theorem cuts_text {t : Tm} {ls : List Tm} (h : rightS (t :: ls) = true) : (cuts 44 (textS (t :: ls)).data.toList).map readT = t :: ls := by
  have ht := (rightS_parts h).2
  rw [textS_cons h, str_toList, List.map_cons, cuts_glue 44 _ _ (fun x hx => by
    obtain ⟨u, hu, rfl⟩ := List.mem_map.1 (show x ∈ (t :: ls).map showT from hx)
    exact showT_lacks (ht u hu))]
  show ((t :: ls).map showT).map readT = _
  rw [List.map_map]
  conv => rhs; rw [← List.map_id (t :: ls)]
  apply List.map_congr_left
  intro u hu
  exact readT_show (ht u hu)
/-- What is shown of a right selector is parsed. -/
theorem parse_text {ls : List Tm} (h : rightS ls = true) : parseS (textS ls) = some ls := by
  cases ls with
  | nil =>
    have e : textS [] = ⟨#[45]⟩ := rfl
    rw [e]
    unfold parseS
    rw [if_pos rfl]
  | cons t ls =>
    have hc := cuts_text h
    unfold parseS
    rw [hc, if_neg, if_pos ⟨h, rfl⟩]
    intro e
    rw [e] at hc
    have h1 : (cuts 44 (⟨#[45]⟩ : ByteArray).data.toList).map readT = [(str [45], false, [])] := by decide +kernel
    rw [h1] at hc
    injection hc with h2 h3
    have h4 := (rightT_parts ((rightS_parts h).2 t (List.mem_cons_self ..))).1
    rw [← h2] at h4
    exact absurd h4 (by decide +kernel)
/-- What is parsed is right, and is shown as it was. -/
theorem parse_back {s : ByteArray} {ls : List Tm} (h : parseS s = some ls) : rightS ls = true ∧ textS ls = s := by
  unfold parseS at h
  split at h
  · rename_i e
    simp only [Option.some.injEq] at h
    subst h
    exact ⟨rfl, by rw [e]; rfl⟩
  split at h
  · rename_i hc
    simp only [Option.some.injEq] at h
    subst h
    exact hc
  · simp at h
/-- Only one right selector has a text. -/
theorem parse_iff {s : ByteArray} {ls : List Tm} : parseS s = some ls ↔ rightS ls = true ∧ textS ls = s :=
  ⟨parse_back, fun ⟨h, e⟩ => by rw [← e]; exact parse_text h⟩
theorem textS_inj {a b : List Tm} (ha : rightS a = true) (hb : rightS b = true) (h : textS a = textS b) : a = b := by
  have g1 := parse_text ha
  have g2 := parse_text hb
  rw [h, g2] at g1
  simpa using g1.symm
/-- What is shown of a right selector is no question mark. -/
theorem textS_ne {a : List Tm} (ha : rightS a = true) : textS a ≠ ⟨#[63]⟩ := by
  intro e
  have h := parse_text ha
  rw [e] at h
  have hb : parseS ⟨#[63]⟩ = none := by
    unfold parseS
    rw [if_neg (by decide), if_neg]
    rintro ⟨h1, _⟩
    exact absurd h1 (by decide +kernel)
  rw [hb] at h
  cases h
end Go.Proofs.YtcgknkbigbbfdaaDoor.Sel
