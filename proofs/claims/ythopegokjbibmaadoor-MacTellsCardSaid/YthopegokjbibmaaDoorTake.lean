/- What wire.takeDigits answers, for every text and every place in it: the digits up to a last one, at most ten of them; the world stays as it was. -/
import Derived.Test.YthopegokjbibmaaDoorProg
import Derived.Test.YthopegokjbibmaaDoorMath
import Derived.WalkKit
import Derived.WalkSpells
import Derived.WalkLawsBesides
import Derived.Lib.Hide
namespace Go.Proofs.YthopegokjbibmaaDoor.Wire
open Go.RowKit

/-- What takeDigits hands back. -/
def tkRes (p : Nat) : Option (Nat × Nat) → Value
  | none => .tuple #[.int .u64 0, .int .i64 0, .bool false]
  | some x => .tuple #[.int .u64 ((x.1 % 18446744073709551616 : Nat) : Int), .int .i64 ((p + x.2 : Nat) : Int), .bool true]

/-- The state of the loop behind k digits. -/
def Took (L : List UInt8) (k X : Nat) : Prop :=
  X < 18446744073709551616 ∧ (k ≤ 9 → X < 2 ^ (7 * k)) ∧ takeL 10 L = (takeL (10 - k) (L.drop k)).map fun x => (X + 2 ^ (7 * k) * x.1, x.2 + k)

theorem Took.start (L : List UInt8) : Took L 0 0 := by
  refine ⟨by decide, fun _ => by decide, ?_⟩
  simp

/-- A digit behind digits: its bits and theirs do not meet. -/
theorem or_step {X k d : Nat} (hk : k ≤ 9) (hX : X < 2 ^ (7 * k)) : X ||| d * 2 ^ (7 * k) % 18446744073709551616 = (X + 2 ^ (7 * k) * d) % 18446744073709551616 := by
  have hpq : 2 ^ (7 * k) * 2 ^ (64 - 7 * k) = 18446744073709551616 := by
    rw [← Nat.pow_add, show 7 * k + (64 - 7 * k) = 64 from by omega]
  rw [← hpq, Nat.mul_comm d, Nat.mul_mod_mul_left, Nat.or_comm, ← Nat.two_pow_add_eq_or_of_lt hX, Nat.mod_mul (x := X + 2 ^ (7 * k) * d), Nat.add_mul_mod_self_left, Nat.mod_eq_of_lt hX,
    Nat.add_mul_div_left _ _ (Nat.two_pow_pos _), Nat.div_eq_of_lt hX, Nat.zero_add, Nat.add_comm]

theorem and127 : ∀ c : Nat, c < 256 → c &&& 127 = c % 128 := fun c _ => Nat.and_two_pow_sub_one_eq_mod c 7
theorem digit_bits (c : UInt8) : bits .andNot .u8 (c.toNat : Int) 128 = ((c.toNat % 128 : Nat) : Int) := by
  have hc := c.toNat_lt
  have h := u8_andNot_nat c.toNat 128 (by omega) (by omega)
  rw [show 255 - 128 = 127 from rfl, and127 _ (by omega)] at h
  exact h
theorem step_bits (c : UInt8) (X k : Nat) (hX : X < 18446744073709551616) :
    bits .or .u64 (X : Int) (IntKind.u64.wrap (IntKind.u64.wrap (bits .andNot .u8 (c.toNat : Int) 128) * 2 ^ (k * 7))) = ((X ||| (c.toNat % 128) * 2 ^ (7 * k) % 18446744073709551616 : Nat) : Int) := by
  rw [digit_bits, show IntKind.u64.wrap ((c.toNat % 128 : Nat) : Int) = ((c.toNat % 128 : Nat) : Int) from by rw [IntKind.wrap_u64]; omega]
  have e : (((c.toNat % 128 : Nat) : Int) * 2 ^ (k * 7)) = (((c.toNat % 128) * 2 ^ (7 * k) : Nat) : Int) := by
    rw [Int.natCast_mul, Int.natCast_pow, Nat.mul_comm k 7]
    rfl
  rw [e]
  generalize (c.toNat % 128) * 2 ^ (7 * k) = y
  rw [show IntKind.u64.wrap (y : Int) = ((y % 18446744073709551616 : Nat) : Int) from by rw [IntKind.wrap_u64]; omega]
  exact bits_or_u64_nat X _ hX (Nat.mod_lt _ (by decide))

theorem Took.last {L : List UInt8} {k X : Nat} {c : UInt8} {r : List UInt8} (h : Took L k X) (hk : k < 10) (hd : L.drop k = c :: r) (hc : c.toNat < 128) :
    takeL 10 L = some (X + 2 ^ (7 * k) * c.toNat, k + 1) := by
  rw [h.2.2, hd, show 10 - k = (9 - k) + 1 from by omega, takeL, if_pos hc]
  simp [Nat.add_comm]
theorem Took.next {L : List UInt8} {k X : Nat} {c : UInt8} {r : List UInt8} (h : Took L k X) (hk : k < 10) (hd : L.drop k = c :: r) (hc : ¬ c.toNat < 128) :
    Took L (k + 1) (X ||| (c.toNat % 128) * 2 ^ (7 * k) % 18446744073709551616) := by
  have hlt := c.toNat_lt
  have hX := h.2.1 (by omega)
  have hr : L.drop (k + 1) = r := by
    have := congrArg List.tail hd
    rw [List.tail_drop] at this
    exact this
  rw [or_step (by omega) hX]
  refine ⟨Nat.mod_lt _ (by decide), fun h9 => ?_, ?_⟩
  · refine Nat.lt_of_le_of_lt (Nat.mod_le _ _) ?_
    rw [show 7 * (k + 1) = 7 * k + 7 from by omega, Nat.pow_add]
    have : 2 ^ (7 * k) * (c.toNat % 128) ≤ 2 ^ (7 * k) * 127 := Nat.mul_le_mul (Nat.le_refl _) (by omega)
    omega
  · rw [h.2.2, hd, hr, show 10 - k = (9 - k) + 1 from by omega, takeL, if_neg hc, show 10 - (k + 1) = 9 - k from by omega, Option.map_map]
    by_cases h9 : k = 9
    · subst h9; simp [takeL]
    · congr 1
      funext x
      simp only [Function.comp, Prod.mk.injEq]
      refine ⟨?_, by omega⟩
      have hb : X + 2 ^ (7 * k) * (c.toNat % 128) < 18446744073709551616 := by
        have h1 : 2 ^ (7 * k) * (c.toNat % 128) ≤ 2 ^ (7 * k) * 127 := Nat.mul_le_mul (Nat.le_refl _) (by omega)
        have h2 : 2 ^ (7 * k) ≤ 2 ^ 56 := Nat.pow_le_pow_right (by omega) (by omega)
        omega
      rw [Nat.mod_eq_of_lt hb, show 7 * (k + 1) = 7 * k + 7 from by omega, Nat.pow_add, show c.toNat - 128 = c.toNat % 128 from by omega, Nat.mul_add, ← Nat.mul_assoc, show 2 ^ 7 = 128 from rfl]
      omega
theorem Took.out {L : List UInt8} {k X : Nat} (h : Took L k X) (hk : 10 ≤ k ∨ L.length ≤ k) : takeL 10 L = none := by
  rw [h.2.2]
  rcases hk with hk | hk
  · rw [show 10 - k = 0 from by omega]; simp [takeL]
  · rw [List.drop_eq_nil_of_le hk]
    cases 10 - k <;> simp [takeL]
theorem drop_at {s : ByteArray} {p k : Nat} (h : p + k < s.size) : (s.data.toList.drop p).drop k = s[p + k] :: (s.data.toList.drop p).drop (k + 1) := by
  rw [List.drop_drop, List.drop_drop, List.drop_eq_getElem_cons (by simpa using h)]
  rfl

set_option maxRecDepth 100000 in
set_option maxHeartbeats 1000000 in
theorem take_any (s : ByteArray) (p : Nat) (hp : p ≤ s.size) (hs : s.size ≤ 9223372036854775807) (w : World) :
    Calls Tryd.prog 63 #[.string s, .int .i64 p] w fun e w' => e = .returned (tkRes p (takeL 10 (s.data.toList.drop p))) ∧ w = w' := by
  obtain ⟨m, hm1, hm2, hm3⟩ : ∃ m : Nat, p + m ≤ s.size ∧ m ≤ 10 ∧ ((s.size - p < 10 ∧ s.size ≤ p + m) ∨ (¬ s.size - p < 10 ∧ 10 ≤ m)) := ⟨min 10 (s.size - p), by omega, by omega, by omega⟩
  rcases hm3 with ⟨hm3, hm4⟩ | ⟨hm3, hm4⟩
  all_goals
    go_enter Tryd.func63, Tryd.ntmps63
    go_wp2
    go_loop [4, 14] (fun u i => ∃ k X : Nat, k ≤ m ∧ i = .int .i64 k ∧ u = .int .u64 X ∧ Took (s.data.toList.drop p) k X)
      (fun _ i => m - (intOf i).toNat)
    case atStart => exact ⟨0, 0, by omega, rfl, rfl, Took.start _⟩
    case round =>
      obtain ⟨k, X, hk, rfl, rfl, ht⟩ := hrel
      have hx := ht.1
      have HT := Lib.hid ht
      clear ht
      by_cases hlt : k < m
      · have hd := drop_at (s := s) (p := p) (k := k) (by omega)
        have hstep := step_bits (s[p + k]'(by omega)) X k hx
        have HD := Lib.hid hd
        clear hd
        obtain ⟨Y, hY⟩ : ∃ Y, Y = X ||| ((s[p + k]'(by omega)).toNat % 128) * 2 ^ (7 * k) % 18446744073709551616 := ⟨_, rfl⟩
        rw [← hY] at hstep
        have HY := Lib.hid hY
        have HS := Lib.hid hstep
        clear hY hstep
        go_wp2
        · have hc : (s[p + k]'(by omega)).toNat < 128 := by
            have h : ((s[p + k]'(by omega)).toNat : Int) < 128 := by assumption
            omega
          have hl := HT.out.last (by omega) HD.out hc
          have hX9 := HT.out.2.1 (by omega)
          go_ret3
          refine ⟨?_, rfl⟩
          rw [HS.out, HY.out, hl, or_step (by omega) hX9, Nat.mod_eq_of_lt hc]
          rfl
        · have hc : ¬ (s[p + k]'(by omega)).toNat < 128 := by
            have h : (128 : Int) ≤ ((s[p + k]'(by omega)).toNat : Int) := by assumption
            omega
          have hn := HT.out.next (by omega) HD.out hc
          rw [← HY.out] at hn
          go_round
          case rel => exact ⟨k + 1, Y, by omega, by go_num, by rw [HS.out], hn⟩
          case measure => simp [intOf]; omega
      · go_wp2
        have hl := HT.out.out (by simp; omega)
        go_ret3
        rw [hl]
        exact ⟨rfl, rfl⟩
end Go.Proofs.YthopegokjbibmaaDoor.Wire
