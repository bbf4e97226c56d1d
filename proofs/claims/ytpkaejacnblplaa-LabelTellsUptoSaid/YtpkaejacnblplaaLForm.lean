/- Labels as bytes: what is put is got where it stands, what is got is put as it stands, no beginning is got; no program. -/
import Derived.Test.YtpkaejacnblplaaLGetV
namespace Go.Proofs.Ytpkaejacnblplaa.Label
open Go.RowKit Go.Proofs.Ytpkaejacnblplaa.Word

theorem grows {a b c : World} (h : Below a.heap.size a b) (k : Below b.heap.size b c) : Below a.heap.size a c := h.trans (k.mono h.size)

/-- The bytes of a text's form. -/
def flat (t : ByteArray) : List UInt8 := Wire.putL t.size ++ t.data.toList
/-- The bytes of pairs, one behind the other. -/
def putsL : List Pr → List UInt8
  | [] => []
  | x :: ls => flat x.1 ++ (flat x.2 ++ putsL ls)

theorem textB_flat (t : ByteArray) : (textB t).data.toList = flat t := by
  unfold textB flat
  simp [Wire.str]
theorem putAcc_list (a : ByteArray) (ls : List Pr) : (putAcc a ls).data.toList = a.data.toList ++ putsL ls := by
  induction ls generalizing a with
  | nil => simp [putAcc, putsL]
  | cons x r ih =>
    show (putAcc (a ++ (textB x.1 ++ textB x.2)) r).data.toList = _
    rw [ih, putsL]
    simp [← textB_flat]
theorem putP_list {ls : List Pr} (h : rightL ls = true) : (putP ls).data.toList = Wire.putL ls.length ++ putsL ls := by
  unfold putP
  rw [if_pos h, putAcc_list, Wire.str_toList]

theorem textV_of {l : List UInt8} {p : Nat} {t : ByteArray} {r : List UInt8} (ht : t.size ≤ 32) (h : l.drop p = flat t ++ r) :
    Wire.textV l (p : Int) 32 = some (p + (Wire.putL t.size).length, p + (flat t).length) := by
  have hs : Wire.Stands t.size (l.drop p) := ⟨by omega, t.data.toList ++ r, by rw [h, flat, List.append_assoc]⟩
  have hlen := congrArg List.length h
  have hpos := Wire.putL_pos t.size
  have hf : (flat t).length = (Wire.putL t.size).length + t.size := by rw [flat, List.length_append, size_list]
  rw [List.length_drop, List.length_append, hf] at hlen
  unfold Wire.textV
  rw [Wire.getV_of hs]
  simp only
  rw [if_neg (by omega), hf, Nat.add_assoc]
theorem extract_of {s : ByteArray} {p : Nat} {t : ByteArray} {r : List UInt8} (h : s.data.toList.drop p = flat t ++ r) : s.extract (p + (Wire.putL t.size).length) (p + (flat t).length) = t := by
  have hf : (flat t).length = (Wire.putL t.size).length + t.data.toList.length := by rw [flat, List.length_append]
  apply ByteArray.ext
  apply Array.toList_inj.1
  rw [Lib.extract_data, ← List.drop_drop, h, flat, List.append_assoc, List.drop_left]
  rw [← flat, show p + (flat t).length - (p + (Wire.putL t.size).length) = t.data.toList.length by omega, List.take_left]

theorem read_of (s : ByteArray) : ∀ (ls : List Pr) (p : Nat) (r : List UInt8), (∀ x ∈ ls, lacks x = false) → s.data.toList.drop p = putsL ls ++ r →
    readN (oneGet s) ls.length (p : Int) = some (ls, ((p + (putsL ls).length : Nat) : Int))
  | [], p, r, _, _ => by simp [readN, putsL]
  | x :: ls, p, r, hn, h => by
    have hz := lacks_size (hn x (List.mem_cons_self ..))
    rw [putsL, List.append_assoc] at h
    have h2 : s.data.toList.drop (p + (flat x.1).length) = flat x.2 ++ (putsL ls ++ r) := by rw [← List.drop_drop, h, List.drop_left, List.append_assoc]
    have h3 : s.data.toList.drop (p + (flat x.1).length + (flat x.2).length) = putsL ls ++ r := by rw [← List.drop_drop, h2, List.drop_left]
    have ho : oneGet s (p : Int) = some (x, ((p + (flat x.1).length + (flat x.2).length : Nat) : Int)) := by
      unfold oneGet
      rw [textV_of hz.1 h]
      simp only
      rw [textV_of hz.2 h2]
      simp only
      rw [extract_of h, extract_of h2]
    rw [List.length_cons, readN, ho]
    simp only
    rw [read_of s ls _ r (fun y hy => hn y (List.mem_cons_of_mem _ hy)) h3]
    simp only [putsL, List.length_append, Nat.add_assoc]

/-- What is put of right labels is got where it stands. -/
theorem get_put {s : ByteArray} {p : Nat} {ls : List Pr} {r : List UInt8} (hr : rightL ls = true) (h : s.data.toList.drop p = (putP ls).data.toList ++ r) :
    getL s (p : Int) = some (ls, ((p + (putP ls).size : Nat) : Int)) := by
  obtain ⟨h8, hn, _⟩ := rightL_parts hr
  rw [putP_list hr, List.append_assoc] at h
  have hst : Wire.Stands ls.length (s.data.toList.drop p) := ⟨by omega, _, h⟩
  unfold getL
  rw [Wire.getV_of hst]
  simp only
  rw [if_neg (by omega), read_of s ls (p + (Wire.putL ls.length).length) r hn (by rw [← List.drop_drop, h, List.drop_left])]
  show (if rightL ls = true then _ else _) = _
  rw [if_pos hr, ← size_list (putP ls), putP_list hr, List.length_append, Nat.add_assoc]

theorem flat_extract {s : ByteArray} {p : Int} {a b : Nat} (h : Wire.textV s.data.toList p 32 = some (a, b)) :
    0 ≤ p ∧ p.toNat ≤ b ∧ b ≤ s.size ∧ s.data.toList.drop p.toNat = flat (s.extract a b) ++ s.data.toList.drop b := by
  unfold Wire.textV at h
  split at h
  · simp at h
  rename_i x hg
  split at h
  · simp at h
  rename_i hc
  obtain ⟨u, n⟩ := x
  simp only [Option.some.injEq, Prod.mk.injEq] at h hc
  obtain ⟨rfl, rfl⟩ := h
  obtain ⟨_, hlt, hle, hp, hn, _, r, hr⟩ := Wire.getV_lt hg
  rw [size_list] at hc hle
  have hd : s.data.toList.drop n = r := by rw [hn, ← List.drop_drop, hr, List.drop_left]
  refine ⟨hp, by omega, by omega, ?_⟩
  have hsz : (s.extract n (n + u)).size = u := by rw [ByteArray.size_extract]; omega
  rw [flat, hsz, Lib.extract_data, hd, Nat.add_sub_cancel_left, ← List.drop_drop, hd, List.append_assoc, List.take_append_drop]
  exact hr
theorem oneGet_back {s : ByteArray} {p : Nat} {x : Pr × Int} (h : oneGet s (p : Int) = some x) :
    ∃ q : Nat, x.2 = (q : Int) ∧ p ≤ q ∧ q ≤ s.size ∧ s.data.toList.drop p = flat x.1.1 ++ (flat x.1.2 ++ s.data.toList.drop q) := by
  unfold oneGet at h
  split at h
  · simp at h
  rename_i a ha
  split at h
  · simp at h
  rename_i b hb
  simp only [Option.some.injEq] at h
  subst h
  obtain ⟨a1, a2⟩ := a
  obtain ⟨b1, b2⟩ := b
  obtain ⟨_, h2, h3, h4⟩ := flat_extract ha
  obtain ⟨_, g2, g3, g4⟩ := flat_extract hb
  simp only [Int.toNat_natCast] at h2 h4 g2 g4
  exact ⟨b2, rfl, by omega, g3, by rw [h4, g4]⟩
theorem read_back (s : ByteArray) : ∀ (n p : Nat) (x : List Pr × Int), p ≤ s.size → readN (oneGet s) n (p : Int) = some x →
    ∃ q : Nat, x.2 = (q : Int) ∧ p ≤ q ∧ q ≤ s.size ∧ s.data.toList.drop p = putsL x.1 ++ s.data.toList.drop q
  | 0, p, x, hp, h => by
    simp [readN] at h
    subst h
    exact ⟨p, rfl, Nat.le_refl _, hp, by simp [putsL]⟩
  | n + 1, p, x, hp, h => by
    unfold readN at h
    split at h
    · simp at h
    rename_i y hy
    split at h
    · simp at h
    rename_i z hz
    simp only [Option.some.injEq] at h
    subst h
    obtain ⟨q, h1, h2, h3, h4⟩ := oneGet_back hy
    rw [h1] at hz
    obtain ⟨q', k1, k2, k3, k4⟩ := read_back s n q z h3 hz
    exact ⟨q', k1, by omega, k3, by rw [h4, k4, putsL]; simp⟩

/-- What is got is right, and is put as the bytes that stand there. -/
theorem get_back {s : ByteArray} {p : Int} {ls : List Pr} {n : Int} (h : getL s p = some (ls, n)) :
    rightL ls = true ∧ ∃ a b : Nat, p = (a : Int) ∧ n = (b : Int) ∧ a ≤ b ∧ b ≤ s.size ∧ putP ls = s.extract a b := by
  unfold getL at h
  split at h
  · simp at h
  rename_i x hg
  split at h
  · simp at h
  obtain ⟨u, q⟩ := x
  obtain ⟨_, hlt, hle, hp, hq, _, r, hr⟩ := Wire.getV_lt hg
  obtain ⟨a, rfl⟩ := Int.eq_ofNat_of_zero_le hp
  simp only [Int.toNat_natCast] at hlt hq hr
  rw [size_list] at hle
  unfold keepBoth at h
  split at h
  · simp at h
  rename_i y hy
  split at h
  · rename_i hri
    simp only [Option.some.injEq] at h
    subst h
    obtain ⟨b, h1, h2, h3, h4⟩ := read_back s u q _ hle hy
    have hul := readN_len hy
    refine ⟨hri, a, b, rfl, h1, by omega, h3, ?_⟩
    have hd : s.data.toList.drop q = r := by rw [hq, ← List.drop_drop, hr, List.drop_left]
    have hd2 : s.data.toList.drop a = (putP ls).data.toList ++ s.data.toList.drop b := by
      rw [putP_list hri, List.append_assoc, ← h4, hr, hd]
      simp only at hul
      rw [hul]
    apply ByteArray.ext
    apply Array.toList_inj.1
    have hlen := congrArg List.length hd2
    rw [List.length_drop, List.length_append, List.length_drop, size_list s] at hlen
    rw [Lib.extract_data, hd2, show b - a = (putP ls).data.toList.length by omega, List.take_left]
  · simp at h

theorem get_none_behind {s : ByteArray} {p : Int} (h : p < 0 ∨ (s.size : Int) ≤ p) : getL s p = none := by
  unfold getL
  rw [Wire.getV_out (by rw [size_list]; exact h)]
/-- No beginning of what is put is got. -/
theorem get_torn {ls : List Pr} (hr : rightL ls = true) {k : Nat} (hk : k < (putP ls).size) : getL ((putP ls).extract 0 k) 0 = none := by
  cases h : getL ((putP ls).extract 0 k) 0 with
  | none => rfl
  | some x =>
    exfalso
    obtain ⟨ms, n⟩ := x
    obtain ⟨hm, a, b, ha, hb, hab, hbs, he⟩ := get_back h
    obtain rfl : a = 0 := by omega
    rw [ByteArray.size_extract] at hbs
    have e1 : (putP ms).data.toList = (putP ls).data.toList.take b := by
      rw [he, Lib.extract_data, Lib.extract_data]
      simp only [List.drop_zero, Nat.sub_zero, List.take_take]
      rw [Nat.min_eq_left (by omega)]
    have g1 := get_put (s := putP ls) (p := 0) (r := (putP ls).data.toList.drop b) hm (by rw [e1]; simp)
    have g2 := get_put (s := putP ls) (p := 0) (r := []) hr (by simp)
    rw [g1] at g2
    simp only [Option.some.injEq, Prod.mk.injEq] at g2
    have e2 := congrArg List.length e1
    rw [List.length_take, size_list, size_list] at e2
    omega
theorem putP_inj {a b : List Pr} (ha : rightL a = true) (hb : rightL b = true) (h : putP a = putP b) : a = b := by
  have g1 := get_put (s := putP a) (p := 0) (r := []) ha (by simp)
  have g2 := get_put (s := putP b) (p := 0) (r := []) hb (by simp)
  rw [h, g2] at g1
  simp only [Option.some.injEq, Prod.mk.injEq] at g1
  exact g1.1.symm
theorem putP_pos {a : List Pr} (ha : rightL a = true) : 0 < (putP a).size := by
  rw [← size_list, putP_list ha, List.length_append]
  have := Wire.putL_pos a.length
  omega
theorem putP_le {a : List Pr} : (putP a).size ≤ 700 := by
  unfold putP
  split
  · rename_i h
    obtain ⟨h8, hn, _⟩ := rightL_parts h
    have h1 := putAcc_size (Wire.str (Wire.putL a.length)) a hn
    have h2 : (Wire.str (Wire.putL a.length)).size ≤ 10 := by rw [Wire.str_size]; exact Wire.putL_ten (by omega)
    omega
  · show 0 ≤ 700
    omega
end Go.Proofs.Ytpkaejacnblplaa.Label
