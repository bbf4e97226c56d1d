/- The digits of seven bits of a number, and what is read of bytes: plain facts on lists of bytes and numbers, without the program. -/
namespace Go.Proofs.YthopegokjbibmaaDoor.Wire

/-- The only form of a number: its digits of seven bits, the least first. -/
def putL (u : Nat) : List UInt8 := if u < 128 then [UInt8.ofNat u] else UInt8.ofNat (u % 128 + 128) :: putL (u / 128)
  termination_by u
  decreasing_by omega

theorem putL_lt {u : Nat} (h : u < 128) : putL u = [UInt8.ofNat u] := by rw [putL, if_pos h]
theorem putL_ge {u : Nat} (h : 128 ≤ u) : putL u = UInt8.ofNat (u % 128 + 128) :: putL (u / 128) := by rw [putL, if_neg (by omega)]
theorem putL_pos (u : Nat) : 0 < (putL u).length := by
  by_cases h : u < 128
  · rw [putL_lt h]; simp
  · rw [putL_ge (by omega)]; simp
theorem putL_ne (u : Nat) : putL u ≠ [] := fun h => by have := putL_pos u; rw [h] at this; simp at this
theorem putL_len : ∀ (k u : Nat), u < 128 ^ (k + 1) → (putL u).length ≤ k + 1
  | 0, u, h => by rw [putL_lt (by simpa using h)]; simp
  | k + 1, u, h => by
    by_cases h1 : u < 128
    · rw [putL_lt h1]; simp
    · rw [putL_ge (by omega)]
      have h2 : u / 128 < 128 ^ (k + 1) := by
        rw [Nat.div_lt_iff_lt_mul (by omega)]
        rw [Nat.pow_succ] at h
        exact h
      have := putL_len k (u / 128) h2
      simp only [List.length_cons]
      omega
theorem putL_ten {u : Nat} (h : u < 18446744073709551616) : (putL u).length ≤ 10 := putL_len 9 u (Nat.lt_of_lt_of_le h (by decide))
theorem putL_one (u : Nat) : (putL u).length = 1 ↔ u < 128 := by
  by_cases h : u < 128
  · rw [putL_lt h]; simp [h]
  · rw [putL_ge (by omega)]
    have := putL_pos (u / 128)
    simp only [List.length_cons]
    omega

theorem byte_lo {c : Nat} (h : c < 128) : (UInt8.ofNat c).toNat = c := by simp; omega
theorem byte_hi (u : Nat) : (UInt8.ofNat (u % 128 + 128)).toNat = u % 128 + 128 := by simp; omega

/-- What is read of bytes: the digits up to a last one, at most so many: their number (unbounded), and how many they are. -/
def takeL : Nat → List UInt8 → Option (Nat × Nat)
  | 0, _ => none
  | _ + 1, [] => none
  | f + 1, c :: r => if c.toNat < 128 then some (c.toNat, 1) else (takeL f r).map fun x => (c.toNat - 128 + 128 * x.1, x.2 + 1)

theorem takeL_put : ∀ (f u : Nat) (r : List UInt8), (putL u).length ≤ f → takeL f (putL u ++ r) = some (u, (putL u).length)
  | 0, u, r, h => by have := putL_pos u; omega
  | f + 1, u, r, h => by
    by_cases h1 : u < 128
    · rw [putL_lt h1]
      simp only [List.cons_append, takeL, byte_lo h1, if_pos h1, List.length_cons, List.nil_append, List.length_nil]
    · rw [putL_ge (by omega)] at h ⊢
      simp only [List.length_cons] at h
      simp only [List.cons_append, takeL, byte_hi]
      rw [if_neg (by omega), takeL_put f (u / 128) r (by omega)]
      simp only [Option.map_some, List.length_cons]
      congr 2
      omega

theorem takeL_len : ∀ (f : Nat) (l : List UInt8) (v k : Nat), takeL f l = some (v, k) → 1 ≤ k ∧ k ≤ f ∧ k ≤ l.length
  | 0, l, v, k, h => by simp [takeL] at h
  | f + 1, [], v, k, h => by simp [takeL] at h
  | f + 1, c :: r, v, k, h => by
    simp only [takeL] at h
    split at h
    · simp only [Option.some.injEq, Prod.mk.injEq] at h
      obtain ⟨rfl, rfl⟩ := h
      simp
    · simp only [Option.map_eq_some_iff, Prod.mk.injEq, Prod.exists] at h
      obtain ⟨v', k', h', rfl, rfl⟩ := h
      have := takeL_len f r v' k' h'
      simp only [List.length_cons]
      omega

/-- Of what begins alike the numbers are alike. -/
theorem putL_same {u v : Nat} {a b : List UInt8} (h : putL u ++ a = putL v ++ b) : u = v ∧ a = b := by
  have h1 := takeL_put ((putL u).length + (putL v).length) u a (by omega)
  have h2 := takeL_put ((putL u).length + (putL v).length) v b (by omega)
  rw [h, h2] at h1
  simp only [Option.some.injEq, Prod.mk.injEq] at h1
  obtain ⟨rfl, -⟩ := h1
  exact ⟨rfl, List.append_cancel_left h⟩
theorem putL_begins {u v : Nat} {r : List UInt8} (h : putL v = putL u ++ r) : u = v ∧ r = [] := by
  have := putL_same (u := u) (v := v) (a := r) (b := []) (by simp [h])
  exact this
theorem putL_inj {u v : Nat} (h : putL u = putL v) : u = v := (putL_same (a := []) (b := []) (by simp [h])).1

/-- What stands in l is the form of u, and something behind. -/
def Stands (u : Nat) (l : List UInt8) : Prop := u < 18446744073709551616 ∧ ∃ r, l = putL u ++ r

theorem Stands.one {u v : Nat} {l : List UInt8} (h : Stands u l) (k : Stands v l) : u = v := by
  obtain ⟨_, r, rfl⟩ := h
  obtain ⟨_, s, e⟩ := k
  exact (putL_same e).1
theorem not_stands_nil (u : Nat) : ¬ Stands u [] := by
  rintro ⟨_, r, h⟩
  have := congrArg List.length h
  have := putL_pos u
  simp at *
  omega
theorem Stands.takes {u : Nat} {l : List UInt8} (h : Stands u l) : takeL 10 l = some (u, (putL u).length) := by
  obtain ⟨hu, r, rfl⟩ := h
  exact takeL_put 10 u r (putL_ten hu)
theorem stands_of {l : List UInt8} {u k : Nat} (hu : u < 18446744073709551616) (h : putL u = l.take k) : Stands u l :=
  ⟨hu, l.drop k, by rw [h, List.take_append_drop]⟩
theorem Stands.take {u : Nat} {l : List UInt8} (h : Stands u l) : l.take (putL u).length = putL u := by
  obtain ⟨_, r, rfl⟩ := h
  simp
theorem Stands.len {u : Nat} {l : List UInt8} (h : Stands u l) : (putL u).length ≤ l.length := by
  obtain ⟨_, r, rfl⟩ := h
  simp
end Go.Proofs.YthopegokjbibmaaDoor.Wire
