/- What the document's own Get answers, for every text and place: the same plain function as the program's; the world stays as it was. -/
import Derived.Test.YtbilkeadhflibaaGreatDoorJL4
namespace Go.Proofs.YtbilkeadhflibaaGreatDoor.Wire
open Go.RowKit

/-- What the document's Get hands back. -/
def gv : Option (Nat × Nat) → Value
  | none => .tuple #[.int .u64 0, .int .i64 0, .bool false]
  | some x => .tuple #[.int .u64 (x.1 : Int), .int .i64 (x.2 : Int), .bool true]

/-- A last digit that is not 0 makes a number that is not 0. -/
theorem takeL_nz : ∀ (f : Nat) (l : List UInt8) (v k : Nat) (c : UInt8), takeL f l = some (v, k) → l[k - 1]? = some c → c.toNat ≠ 0 → 0 < v
  | 0, l, v, k, c, h, _, _ => by simp [takeL] at h
  | f + 1, [], v, k, c, h, _, _ => by simp [takeL] at h
  | f + 1, d :: r, v, k, c, h, hc, hn => by
    simp only [takeL] at h
    split at h
    · simp only [Option.some.injEq, Prod.mk.injEq] at h
      obtain ⟨rfl, rfl⟩ := h
      simp at hc
      subst hc
      omega
    · simp only [Option.map_eq_some_iff, Prod.mk.injEq, Prod.exists] at h
      obtain ⟨v', k', h', rfl, rfl⟩ := h
      have hk := takeL_len f r v' k' h'
      have := takeL_nz f r v' k' c h' (by rw [show k' + 1 - 1 = (k' - 1) + 1 from by omega] at hc; simpa using hc) hn
      omega
/-- Digits of which the last one is not 0, or which are one alone, are the only form of their number. -/
theorem takeL_form : ∀ (f : Nat) (l : List UInt8) (v k : Nat), takeL f l = some (v, k) → (k = 1 ∨ ∃ c, l[k - 1]? = some c ∧ c.toNat ≠ 0) → putL v = l.take k
  | 0, l, v, k, h, _ => by simp [takeL] at h
  | f + 1, [], v, k, h, _ => by simp [takeL] at h
  | f + 1, d :: r, v, k, h, hc => by
    simp only [takeL] at h
    split at h
    · rename_i hd
      simp only [Option.some.injEq, Prod.mk.injEq] at h
      obtain ⟨rfl, rfl⟩ := h
      rw [putL_lt hd]
      simp
    · rename_i hd
      simp only [Option.map_eq_some_iff, Prod.mk.injEq, Prod.exists] at h
      obtain ⟨v', k', h', rfl, rfl⟩ := h
      have hk := takeL_len f r v' k' h'
      have hlt := d.toNat_lt
      rcases hc with hc | ⟨c, hc, hn⟩
      · omega
      rw [show k' + 1 - 1 = (k' - 1) + 1 from by omega, List.getElem?_cons_succ] at hc
      have hp := takeL_nz f r v' k' c h' hc hn
      have ih := takeL_form f r v' k' h' (Or.inr ⟨c, hc, hn⟩)
      rw [putL_ge (by omega), show (d.toNat - 128 + 128 * v') / 128 = v' from by omega, ih, List.take_succ_cons]
      congr 1
      rw [← UInt8.toNat_inj, byte_hi]
      omega

theorem getV_yes {l : List UInt8} {p v k : Nat} {c : UInt8} (ht : takeL 10 (l.drop p) = some (v, k)) (hv : v < 18446744073709551616) (hc : k = 1 ∨ (l.drop p)[k - 1]? = some c ∧ c.toNat ≠ 0) : getV l p = some (v, p + k) := by
  have hf := takeL_form _ _ _ _ ht (by rcases hc with h | h; exact Or.inl h; exact Or.inr ⟨c, h⟩)
  unfold getV
  rw [if_neg (by omega), Int.toNat_natCast, ht]
  simp only
  rw [Nat.mod_eq_of_lt hv, if_pos hf]
theorem getV_no {l : List UInt8} {p : Nat} (h : ∀ u, Stands u (l.drop p) → False) : getV l p = none := by
  cases hg : getV l p with
  | none => rfl
  | some x =>
    have := (getV_lt (u := x.1) (n := x.2) hg).2.2.2.2.2
    rw [Int.toNat_natCast] at this
    exact (h _ this).elim
theorem getV_none {l : List UInt8} {p : Nat} (h : takeL 10 (l.drop p) = none) : getV l p = none :=
  getV_no fun u hu => by have := hu.takes; rw [h] at this; simp at this
theorem getV_big {l : List UInt8} {p v k : Nat} (h : takeL 10 (l.drop p) = some (v, k)) (hv : 18446744073709551616 ≤ v) : getV l p = none :=
  getV_no fun u hu => by
    have := hu.takes
    rw [h] at this
    simp only [Option.some.injEq, Prod.mk.injEq] at this
    have := hu.1
    omega
theorem getV_long {l : List UInt8} {p v k : Nat} (h : takeL 10 (l.drop p) = some (v, k + 1)) (hk : 1 ≤ k) (hv : v < 2 ^ (7 * k)) : getV l p = none :=
  getV_no fun u hu => by
    have := hu.takes
    rw [h] at this
    simp only [Option.some.injEq, Prod.mk.injEq] at this
    obtain ⟨rfl, hl⟩ := this
    have := putL_len (k - 1) v (by rw [show k - 1 + 1 = k from by omega, show 128 = 2 ^ 7 from rfl, ← Nat.pow_mul]; exact hv)
    omega

theorem head_at {L : List UInt8} {k : Nat} {c : UInt8} {r : List UInt8} (h : L.drop k = c :: r) : L[k]? = some c := by
  have := congrArg List.head? h
  rw [List.head?_drop] at this
  exact this
theorem add_step (c : UInt8) (X k : Nat) : IntKind.u64.wrap ((X : Int) + IntKind.u64.wrap ((c.toNat : Int) % 128 * 2 ^ (7 * k))) = (((X + 2 ^ (7 * k) * (c.toNat % 128)) % 18446744073709551616 : Nat) : Int) := by
  have e : ((c.toNat : Int) % 128 * 2 ^ (7 * k)) = ((2 ^ (7 * k) * (c.toNat % 128) : Nat) : Int) := by
    rw [Nat.mul_comm (2 ^ (7 * k)), Int.natCast_mul, Int.natCast_pow]
    rfl
  rw [e]
  generalize 2 ^ (7 * k) * (c.toNat % 128) = y
  rw [IntKind.wrap_u64, IntKind.wrap_u64]
  omega
theorem add_step9 (c : UInt8) (X : Nat) : IntKind.u64.wrap ((X : Int) + (c.toNat : Int) % 128 * 9223372036854775808) = (((X + 2 ^ (7 * 9) * (c.toNat % 128)) % 18446744073709551616 : Nat) : Int) := by
  rw [IntKind.wrap_u64, show 2 ^ (7 * 9) = 9223372036854775808 from rfl]
  omega
theorem Took.more {L : List UInt8} {k X : Nat} {c : UInt8} {r : List UInt8} (h : Took L k X) (hk : k < 10) (hd : L.drop k = c :: r) (hc : ¬ c.toNat < 128) :
    Took L (k + 1) ((X + 2 ^ (7 * k) * (c.toNat % 128)) % 18446744073709551616) := by
  rw [← or_step (by omega) (h.2.1 (by omega))]
  exact h.next hk hd hc
theorem val_lt {X k c : Nat} (hX : X < 2 ^ (7 * k)) (hc : c < 128) (hk : k ≤ 8 ∨ k = 9 ∧ c ≤ 1) : X + 2 ^ (7 * k) * c < 18446744073709551616 := by
  rcases hk with hk | ⟨rfl, hk⟩
  · have h1 : 2 ^ (7 * k) * c ≤ 2 ^ (7 * k) * 127 := Nat.mul_le_mul (Nat.le_refl _) (by omega)
    have h2 : 2 ^ (7 * k) ≤ 2 ^ 56 := Nat.pow_le_pow_right (by omega) (by omega)
    omega
  · rw [show 2 ^ (7 * 9) = 9223372036854775808 from rfl] at *
    omega

set_option maxRecDepth 100000 in
set_option maxHeartbeats 1000000 in
theorem refGet_in (s : ByteArray) (p : Nat) (hp : p < s.size) (hs : s.size ≤ 9223372036854775797) (w : World) :
    Calls Tryz.prog 36 #[.string s, .int .i64 p] w fun e w' => e = .returned (gv (getV s.data.toList p)) ∧ w = w' := by
  have d1 : decide ((p : Int) < 0) = false := decide_eq_false (by omega)
  have d2 : decide (s.size ≤ p) = false := decide_eq_false (by omega)
  go_enter Tryz.func36, Tryz.ntmps36
  go_wp2
  go_loop [7, 8] (fun u i => ∃ k X : Nat, k ≤ 10 ∧ p + k ≤ s.size ∧ i = .int .i64 k ∧ u = .int .u64 X ∧ Took (s.data.toList.drop p) k X)
    (fun _ i => 10 - (intOf i).toNat)
  case atStart => exact ⟨0, 0, by omega, by omega, rfl, rfl, Took.start _⟩
  case round =>
    obtain ⟨k, X, hk, hpk, rfl, rfl, ht⟩ := hrel
    have hx := ht.1
    have HT := Lib.hid ht
    clear ht
    by_cases hlt : k < 10 ∧ p + k < s.size
    · obtain ⟨h10, hps⟩ := hlt
      have hd := drop_at (s := s) (p := p) (k := k) hps
      have HD := Lib.hid hd
      clear hd
      have HA := Lib.hid (add_step (s[p + k]'hps) X k)
      have HN := Lib.hid (add_step9 (s[p + k]'hps) X)
      have HX := Lib.hid (HT.out.2.1)
      have HG := Lib.hid (head_at HD.out)
      go_wp2
      · -- the tenth digit is too great
        have h9 : (k : Int) = 9 := by assumption
        have hc : 1 < ((s[p + k]'hps).toNat : Int) % 128 := by assumption
        obtain rfl : k = 9 := by omega
        have hn : getV s.data.toList p = none := by
          by_cases hl : (s[p + 9]'hps).toNat < 128
          · exact getV_big (HT.out.last (by omega) HD.out hl) (by rw [show 2 ^ (7 * 9) = 9223372036854775808 from rfl]; omega)
          · exact getV_none ((HT.out.more (by omega) HD.out hl).out (Or.inl (by omega)))
        go_ret3
        rw [hn]
        exact ⟨rfl, rfl⟩
      · -- the tenth digit goes on
        have h9 : (k : Int) = 9 := by assumption
        have hc : (128 : Int) ≤ ((s[p + k]'hps).toNat : Int) := by assumption
        obtain rfl : k = 9 := by omega
        go_round
        case rel => exact ⟨10, _, by omega, by omega, by go_num, by rw [HN.out], HT.out.more (by omega) HD.out (by omega)⟩
        case measure => simp [intOf]
      · -- ten digits, the last one 0
        have h9 : (k : Int) = 9 := by assumption
        have hc : (((s[p + k]'hps).toNat : Int) == 0) = true := by assumption
        have hc0 : (s[p + k]'hps).toNat = 0 := by have := WalkArith.int_eq hc; omega
        obtain rfl : k = 9 := by omega
        have hn : getV s.data.toList p = none := by
          have h := HT.out.last (by omega) HD.out (by omega)
          rw [hc0, Nat.mul_zero, Nat.add_zero] at h
          exact getV_long h (by omega) (HX.out (by omega))
        go_ret3
        rw [hn]
        exact ⟨rfl, rfl⟩
      · -- ten digits
        have h9 : (k : Int) = 9 := by assumption
        have hc : (((s[p + k]'hps).toNat : Int) == 0) = false := by assumption
        have hc1 : ((s[p + k]'hps).toNat : Int) < 128 := by assumption
        have hc2 : ((s[p + k]'hps).toNat : Int) % 128 ≤ 1 := by assumption
        have hc0 : (s[p + k]'hps).toNat ≠ 0 := by have := WalkArith.int_ne hc; omega
        obtain rfl : k = 9 := by omega
        have hv := val_lt (c := (s[p + 9]'hps).toNat) (HX.out (by omega)) (by omega) (Or.inr ⟨rfl, by omega⟩)
        have hn := getV_yes (HT.out.last (by omega) HD.out (by omega)) hv (Or.inr ⟨HG.out, hc0⟩)
        go_ret3
        rw [hn, HN.out, Nat.mod_eq_of_lt (a := (s[p + 9]'hps).toNat) (by omega), Nat.mod_eq_of_lt hv]
        exact ⟨rfl, rfl⟩
      · -- a digit that goes on
        have h9 : ¬ (k : Int) = 9 := by assumption
        have hc : (128 : Int) ≤ ((s[p + k]'hps).toNat : Int) := by assumption
        go_round
        case rel => exact ⟨k + 1, _, by omega, by omega, by go_num, by rw [HA.out], HT.out.more (by omega) HD.out (by omega)⟩
        case measure => simp [intOf]; omega
      · -- the last one of some, and 0
        have h9 : ¬ (k : Int) = 9 := by assumption
        have h0 : 0 < k := by assumption
        have hc : (((s[p + k]'hps).toNat : Int) == 0) = true := by assumption
        have hc0 : (s[p + k]'hps).toNat = 0 := by have := WalkArith.int_eq hc; omega
        have hn : getV s.data.toList p = none := by
          have h := HT.out.last (by omega) HD.out (by omega)
          rw [hc0, Nat.mul_zero, Nat.add_zero] at h
          exact getV_long h (by omega) (HX.out (by omega))
        go_ret3
        rw [hn]
        exact ⟨rfl, rfl⟩
      · -- the last one of some
        have h9 : ¬ (k : Int) = 9 := by assumption
        have hc : (((s[p + k]'hps).toNat : Int) == 0) = false := by assumption
        have hc1 : ((s[p + k]'hps).toNat : Int) < 128 := by assumption
        have hc0 : (s[p + k]'hps).toNat ≠ 0 := by have := WalkArith.int_ne hc; omega
        have hv := val_lt (c := (s[p + k]'hps).toNat) (HX.out (by omega)) (by omega) (Or.inl (by omega))
        have hn := getV_yes (HT.out.last (by omega) HD.out (by omega)) hv (Or.inr ⟨HG.out, hc0⟩)
        go_ret3
        rw [hn, HA.out, Nat.mod_eq_of_lt (a := (s[p + k]'hps).toNat) (by omega), Nat.mod_eq_of_lt hv]
        exact ⟨rfl, rfl⟩
      · -- one digit
        have h0 : ¬ 0 < k := by assumption
        have hc1 : ((s[p + k]'hps).toNat : Int) < 128 := by assumption
        have hv := val_lt (c := (s[p + k]'hps).toNat) (HX.out (by omega)) (by omega) (Or.inl (by omega))
        have hn := getV_yes (c := 0) (HT.out.last (by omega) HD.out (by omega)) hv (Or.inl (by omega))
        go_ret3
        rw [hn, HA.out, Nat.mod_eq_of_lt (a := (s[p + k]'hps).toNat) (by omega), Nat.mod_eq_of_lt hv]
        exact ⟨rfl, rfl⟩
    · go_wp2
      all_goals
        have hn : getV s.data.toList p = none := getV_none (HT.out.out (by rw [List.length_drop, size_list]; omega))
        go_ret3
        rw [hn]
        exact ⟨rfl, rfl⟩

set_option maxRecDepth 100000 in
set_option maxHeartbeats 1000000 in
theorem refGet_out (s : ByteArray) (p : Int) (hp : p < 0 ∨ (s.size : Int) ≤ p) (w : World) :
    Calls Tryz.prog 36 #[.string s, .int .i64 p] w fun e w' => e = .returned (gv (getV s.data.toList p)) ∧ w = w' := by
  have hn : getV s.data.toList p = none := getV_out (by rw [size_list]; exact hp)
  rw [hn]
  clear hn
  rcases hp with hp | hp
  · go_enter Tryz.func36, Tryz.ntmps36
    go_wp2
    go_ret3
    exact ⟨rfl, rfl⟩
  · have hp0 : ¬ p < 0 := by omega
    go_enter Tryz.func36, Tryz.ntmps36
    go_wp2
    go_ret3
    exact ⟨rfl, rfl⟩

theorem refGet_any (s : ByteArray) (hs : s.size ≤ 9223372036854775797) (p : Int) (w : World) :
    Calls Tryz.prog 36 #[.string s, .int .i64 p] w fun e w' => e = .returned (gv (getV s.data.toList p)) ∧ w = w' := by
  by_cases h : p < 0 ∨ (s.size : Int) ≤ p
  · exact refGet_out s p h w
  · obtain ⟨q, rfl⟩ := Int.eq_ofNat_of_zero_le (show 0 ≤ p by omega)
    exact refGet_in s q (by omega) hs w
end Go.Proofs.YtbilkeadhflibaaGreatDoor.Wire
