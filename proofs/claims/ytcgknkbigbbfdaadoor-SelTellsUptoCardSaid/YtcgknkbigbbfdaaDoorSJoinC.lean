import Derived.Test.YtcgknkbigbbfdaaDoorText
import Derived.Test.YtcgknkbigbbfdaaDoorSRef5
import Derived.Test.YtcgknkbigbbfdaaDoorSJoinA
import Derived.Test.YtcgknkbigbbfdaaDoorSRefR
import Derived.Test.YtcgknkbigbbfdaaDoorSPutV
import Derived.Test.YtcgknkbigbbfdaaDoorSSplit
import Derived.Test.YtcgknkbigbbfdaaDoorRows
import Derived.Test.YtcgknkbigbbfdaaDoorTie
import Derived.Test.YtcgknkbigbbfdaaDoorCards
import Derived.Stop.LaidErr
import Derived.LaidMore
import Derived.Test.YtcgknkbigbbfdaaDoorLRow
import Derived.ProofKit
import Derived.OpenShut
import Derived.SizedLaws
import Derived.Deep.SlicePairs
import Derived.JoinedCond
import Derived.LaidLaws
import Derived.WalkKit
/- What the document's own Get answers, for every text and place: the same plain function as the program's; the world stays as it was. -/
namespace Go.Proofs.YtcgknkbigbbfdaaDoor.Wire
open Go.RowKit

/-- What the document's Get hands back. -/
def gv : Option (Nat × Nat) → Value
  | none => .tuple #[.int .u64 0, .int .i64 0, .bool false]
  | some x => .tuple #[.int .u64 (x.1 : Int), .int .i64 (x.2 : Int), .bool true]

/-- A last digit that is not 0 makes a number that is not 0. -/
theorem takeL_nz : ∀ (f : Nat) (l : List UInt8) (v k : Nat) (c : UInt8), takeL f l = some (v, k) → l[k - 1]? = some c → c.toNat ≠ 0 → 0 < v
  | 0, l, v, k, c, h, _, _ => by simp [takeL] at h
  | f + 1, [], v, k, c, h, _, _ => by simp [takeL] at h
  | f + 1, d :: r, v, k, c, h, hc, hn => by
    simp only [takeL] at h
    split at h
    · simp only [Option.some.injEq, Prod.mk.injEq] at h
      obtain ⟨rfl, rfl⟩ := h
      simp at hc
      subst hc
      omega
    · simp only [Option.map_eq_some_iff, Prod.mk.injEq, Prod.exists] at h
      obtain ⟨v', k', h', rfl, rfl⟩ := h
      have hk := takeL_len f r v' k' h'
      have := takeL_nz f r v' k' c h' (by rw [show k' + 1 - 1 = (k' - 1) + 1 from by omega] at hc; simpa using hc) hn
      omega
/-- Digits of which the last one is not 0, or which are one alone, are the only form of their number. -/
theorem takeL_form : ∀ (f : Nat) (l : List UInt8) (v k : Nat), takeL f l = some (v, k) → (k = 1 ∨ ∃ c, l[k - 1]? = some c ∧ c.toNat ≠ 0) → putL v = l.take k
  | 0, l, v, k, h, _ => by simp [takeL] at h
  | f + 1, [], v, k, h, _ => by simp [takeL] at h
  | f + 1, d :: r, v, k, h, hc => by
    simp only [takeL] at h
    split at h
    · rename_i hd
      simp only [Option.some.injEq, Prod.mk.injEq] at h
      obtain ⟨rfl, rfl⟩ := h
      rw [putL_lt hd]
      simp
    · rename_i hd
      simp only [Option.map_eq_some_iff, Prod.mk.injEq, Prod.exists] at h
      obtain ⟨v', k', h', rfl, rfl⟩ := h
      have hk := takeL_len f r v' k' h'
      have hlt := d.toNat_lt
      rcases hc with hc | ⟨c, hc, hn⟩
      · omega
      rw [show k' + 1 - 1 = (k' - 1) + 1 from by omega, List.getElem?_cons_succ] at hc
      have hp := takeL_nz f r v' k' c h' hc hn
      have ih := takeL_form f r v' k' h' (Or.inr ⟨c, hc, hn⟩)
      rw [putL_ge (by omega), show (d.toNat - 128 + 128 * v') / 128 = v' from by omega, ih, List.take_succ_cons]
      congr 1
      rw [← UInt8.toNat_inj, byte_hi]
      omega

theorem getV_yes {l : List UInt8} {p v k : Nat} {c : UInt8} (ht : takeL 10 (l.drop p) = some (v, k)) (hv : v < 18446744073709551616) (hc : k = 1 ∨ (l.drop p)[k - 1]? = some c ∧ c.toNat ≠ 0) : getV l p = some (v, p + k) := by
  have hf := takeL_form _ _ _ _ ht (by rcases hc with h | h; exact Or.inl h; exact Or.inr ⟨c, h⟩)
  unfold getV
  rw [if_neg (by omega), Int.toNat_natCast, ht]
  simp only
  rw [Nat.mod_eq_of_lt hv, if_pos hf]
theorem getV_no {l : List UInt8} {p : Nat} (h : ∀ u, Stands u (l.drop p) → False) : getV l p = none := by
  cases hg : getV l p with
  | none => rfl
  | some x =>
    have := (getV_lt (u := x.1) (n := x.2) hg).2.2.2.2.2
    rw [Int.toNat_natCast] at this
    exact (h _ this).elim
theorem getV_none {l : List UInt8} {p : Nat} (h : takeL 10 (l.drop p) = none) : getV l p = none :=
  getV_no fun u hu => by have := hu.takes; rw [h] at this; simp at this
theorem getV_big {l : List UInt8} {p v k : Nat} (h : takeL 10 (l.drop p) = some (v, k)) (hv : 18446744073709551616 ≤ v) : getV l p = none :=
  getV_no fun u hu => by
    have := hu.takes
    rw [h] at this
    simp only [Option.some.injEq, Prod.mk.injEq] at this
    have := hu.1
    omega
theorem getV_long {l : List UInt8} {p v k : Nat} (h : takeL 10 (l.drop p) = some (v, k + 1)) (hk : 1 ≤ k) (hv : v < 2 ^ (7 * k)) : getV l p = none :=
  getV_no fun u hu => by
    have := hu.takes
    rw [h] at this
    simp only [Option.some.injEq, Prod.mk.injEq] at this
    obtain ⟨rfl, hl⟩ := this
    have := putL_len (k - 1) v (by rw [show k - 1 + 1 = k from by omega, show 128 = 2 ^ 7 from rfl, ← Nat.pow_mul]; exact hv)
    omega

theorem head_at {L : List UInt8} {k : Nat} {c : UInt8} {r : List UInt8} (h : L.drop k = c :: r) : L[k]? = some c := by
  have := congrArg List.head? h
  rw [List.head?_drop] at this
  exact this
theorem add_step (c : UInt8) (X k : Nat) : IntKind.u64.wrap ((X : Int) + IntKind.u64.wrap ((c.toNat : Int) % 128 * 2 ^ (7 * k))) = (((X + 2 ^ (7 * k) * (c.toNat % 128)) % 18446744073709551616 : Nat) : Int) := by
  have e : ((c.toNat : Int) % 128 * 2 ^ (7 * k)) = ((2 ^ (7 * k) * (c.toNat % 128) : Nat) : Int) := by
    rw [Nat.mul_comm (2 ^ (7 * k)), Int.natCast_mul, Int.natCast_pow]
    rfl
  rw [e]
  generalize 2 ^ (7 * k) * (c.toNat % 128) = y
  rw [IntKind.wrap_u64, IntKind.wrap_u64]
  omega
theorem add_step9 (c : UInt8) (X : Nat) : IntKind.u64.wrap ((X : Int) + (c.toNat : Int) % 128 * 9223372036854775808) = (((X + 2 ^ (7 * 9) * (c.toNat % 128)) % 18446744073709551616 : Nat) : Int) := by
  rw [IntKind.wrap_u64, show 2 ^ (7 * 9) = 9223372036854775808 from rfl]
  omega
theorem Took.more {L : List UInt8} {k X : Nat} {c : UInt8} {r : List UInt8} (h : Took L k X) (hk : k < 10) (hd : L.drop k = c :: r) (hc : ¬ c.toNat < 128) :
    Took L (k + 1) ((X + 2 ^ (7 * k) * (c.toNat % 128)) % 18446744073709551616) := by
  rw [← or_step (by omega) (h.2.1 (by omega))]
  exact h.next hk hd hc
theorem val_lt {X k c : Nat} (hX : X < 2 ^ (7 * k)) (hc : c < 128) (hk : k ≤ 8 ∨ k = 9 ∧ c ≤ 1) : X + 2 ^ (7 * k) * c < 18446744073709551616 := by
  rcases hk with hk | ⟨rfl, hk⟩
  · have h1 : 2 ^ (7 * k) * c ≤ 2 ^ (7 * k) * 127 := Nat.mul_le_mul (Nat.le_refl _) (by omega)
    have h2 : 2 ^ (7 * k) ≤ 2 ^ 56 := Nat.pow_le_pow_right (by omega) (by omega)
    omega
  · rw [show 2 ^ (7 * 9) = 9223372036854775808 from rfl] at *
    omega

set_option maxRecDepth 100000 in
set_option maxHeartbeats 1000000 in
theorem refGet_in (s : ByteArray) (p : Nat) (hp : p < s.size) (hs : s.size ≤ 9223372036854775797) (w : World) :
    Calls Tryd.prog 31 #[.string s, .int .i64 p] w fun e w' => e = .returned (gv (getV s.data.toList p)) ∧ w = w' := by
  have d1 : decide ((p : Int) < 0) = false := decide_eq_false (by omega)
  have d2 : decide (s.size ≤ p) = false := decide_eq_false (by omega)
  go_enter Tryd.func31, Tryd.ntmps31
  go_wp2
  go_loop [7, 8] (fun u i => ∃ k X : Nat, k ≤ 10 ∧ p + k ≤ s.size ∧ i = .int .i64 k ∧ u = .int .u64 X ∧ Took (s.data.toList.drop p) k X)
    (fun _ i => 10 - (intOf i).toNat)
  case atStart => exact ⟨0, 0, by omega, by omega, rfl, rfl, Took.start _⟩
  case round =>
    obtain ⟨k, X, hk, hpk, rfl, rfl, ht⟩ := hrel
    have hx := ht.1
    have HT := Lib.hid ht
    clear ht
    by_cases hlt : k < 10 ∧ p + k < s.size
    · obtain ⟨h10, hps⟩ := hlt
      have hd := drop_at (s := s) (p := p) (k := k) hps
      have HD := Lib.hid hd
      clear hd
      have HA := Lib.hid (add_step (s[p + k]'hps) X k)
      have HN := Lib.hid (add_step9 (s[p + k]'hps) X)
      have HX := Lib.hid (HT.out.2.1)
      have HG := Lib.hid (head_at HD.out)
      go_wp2
      · -- the tenth digit is too great
        have h9 : (k : Int) = 9 := by assumption
        have hc : 1 < ((s[p + k]'hps).toNat : Int) % 128 := by assumption
        obtain rfl : k = 9 := by omega
        have hn : getV s.data.toList p = none := by
          by_cases hl : (s[p + 9]'hps).toNat < 128
          · exact getV_big (HT.out.last (by omega) HD.out hl) (by rw [show 2 ^ (7 * 9) = 9223372036854775808 from rfl]; omega)
          · exact getV_none ((HT.out.more (by omega) HD.out hl).out (Or.inl (by omega)))
        go_ret3
        rw [hn]
        exact ⟨rfl, rfl⟩
      · -- the tenth digit goes on
        have h9 : (k : Int) = 9 := by assumption
        have hc : (128 : Int) ≤ ((s[p + k]'hps).toNat : Int) := by assumption
        obtain rfl : k = 9 := by omega
        go_round
        case rel => exact ⟨10, _, by omega, by omega, by go_num, by rw [HN.out], HT.out.more (by omega) HD.out (by omega)⟩
        case measure => simp [intOf]
      · -- ten digits, the last one 0
        have h9 : (k : Int) = 9 := by assumption
        have hc : (((s[p + k]'hps).toNat : Int) == 0) = true := by assumption
        have hc0 : (s[p + k]'hps).toNat = 0 := by have := WalkArith.int_eq hc; omega
        obtain rfl : k = 9 := by omega
        have hn : getV s.data.toList p = none := by
          have h := HT.out.last (by omega) HD.out (by omega)
          rw [hc0, Nat.mul_zero, Nat.add_zero] at h
          exact getV_long h (by omega) (HX.out (by omega))
        go_ret3
        rw [hn]
        exact ⟨rfl, rfl⟩
      · -- ten digits
        have h9 : (k : Int) = 9 := by assumption
        have hc : (((s[p + k]'hps).toNat : Int) == 0) = false := by assumption
        have hc1 : ((s[p + k]'hps).toNat : Int) < 128 := by assumption
        have hc2 : ((s[p + k]'hps).toNat : Int) % 128 ≤ 1 := by assumption
        have hc0 : (s[p + k]'hps).toNat ≠ 0 := by have := WalkArith.int_ne hc; omega
        obtain rfl : k = 9 := by omega
        have hv := val_lt (c := (s[p + 9]'hps).toNat) (HX.out (by omega)) (by omega) (Or.inr ⟨rfl, by omega⟩)
        have hn := getV_yes (HT.out.last (by omega) HD.out (by omega)) hv (Or.inr ⟨HG.out, hc0⟩)
        go_ret3
        rw [hn, HN.out, Nat.mod_eq_of_lt (a := (s[p + 9]'hps).toNat) (by omega), Nat.mod_eq_of_lt hv]
        exact ⟨rfl, rfl⟩
      · -- a digit that goes on
        have h9 : ¬ (k : Int) = 9 := by assumption
        have hc : (128 : Int) ≤ ((s[p + k]'hps).toNat : Int) := by assumption
        go_round
        case rel => exact ⟨k + 1, _, by omega, by omega, by go_num, by rw [HA.out], HT.out.more (by omega) HD.out (by omega)⟩
        case measure => simp [intOf]; omega
      · -- the last one of some, and 0
        have h9 : ¬ (k : Int) = 9 := by assumption
        have h0 : 0 < k := by assumption
        have hc : (((s[p + k]'hps).toNat : Int) == 0) = true := by assumption
        have hc0 : (s[p + k]'hps).toNat = 0 := by have := WalkArith.int_eq hc; omega
        have hn : getV s.data.toList p = none := by
          have h := HT.out.last (by omega) HD.out (by omega)
          rw [hc0, Nat.mul_zero, Nat.add_zero] at h
          exact getV_long h (by omega) (HX.out (by omega))
        go_ret3
        rw [hn]
        exact ⟨rfl, rfl⟩
      · -- the last one of some
        have h9 : ¬ (k : Int) = 9 := by assumption
        have hc : (((s[p + k]'hps).toNat : Int) == 0) = false := by assumption
        have hc1 : ((s[p + k]'hps).toNat : Int) < 128 := by assumption
        have hc0 : (s[p + k]'hps).toNat ≠ 0 := by have := WalkArith.int_ne hc; omega
        have hv := val_lt (c := (s[p + k]'hps).toNat) (HX.out (by omega)) (by omega) (Or.inl (by omega))
        have hn := getV_yes (HT.out.last (by omega) HD.out (by omega)) hv (Or.inr ⟨HG.out, hc0⟩)
        go_ret3
        rw [hn, HA.out, Nat.mod_eq_of_lt (a := (s[p + k]'hps).toNat) (by omega), Nat.mod_eq_of_lt hv]
        exact ⟨rfl, rfl⟩
      · -- one digit
        have h0 : ¬ 0 < k := by assumption
        have hc1 : ((s[p + k]'hps).toNat : Int) < 128 := by assumption
        have hv := val_lt (c := (s[p + k]'hps).toNat) (HX.out (by omega)) (by omega) (Or.inl (by omega))
        have hn := getV_yes (c := 0) (HT.out.last (by omega) HD.out (by omega)) hv (Or.inl (by omega))
        go_ret3
        rw [hn, HA.out, Nat.mod_eq_of_lt (a := (s[p + k]'hps).toNat) (by omega), Nat.mod_eq_of_lt hv]
        exact ⟨rfl, rfl⟩
    · go_wp2
      all_goals
        have hn : getV s.data.toList p = none := getV_none (HT.out.out (by rw [List.length_drop, size_list]; omega))
        go_ret3
        rw [hn]
        exact ⟨rfl, rfl⟩

set_option maxRecDepth 100000 in
set_option maxHeartbeats 1000000 in
theorem refGet_out (s : ByteArray) (p : Int) (hp : p < 0 ∨ (s.size : Int) ≤ p) (w : World) :
    Calls Tryd.prog 31 #[.string s, .int .i64 p] w fun e w' => e = .returned (gv (getV s.data.toList p)) ∧ w = w' := by
  have hn : getV s.data.toList p = none := getV_out (by rw [size_list]; exact hp)
  rw [hn]
  clear hn
  rcases hp with hp | hp
  · go_enter Tryd.func31, Tryd.ntmps31
    go_wp2
    go_ret3
    exact ⟨rfl, rfl⟩
  · have hp0 : ¬ p < 0 := by omega
    go_enter Tryd.func31, Tryd.ntmps31
    go_wp2
    go_ret3
    exact ⟨rfl, rfl⟩

theorem refGet_any (s : ByteArray) (hs : s.size ≤ 9223372036854775797) (p : Int) (w : World) :
    Calls Tryd.prog 31 #[.string s, .int .i64 p] w fun e w' => e = .returned (gv (getV s.data.toList p)) ∧ w = w' := by
  by_cases h : p < 0 ∨ (s.size : Int) ≤ p
  · exact refGet_out s p h w
  · obtain ⟨q, rfl⟩ := Int.eq_ofNat_of_zero_le (show 0 ≤ p by omega)
    exact refGet_in s q (by omega) hs w
end Go.Proofs.YtcgknkbigbbfdaaDoor.Wire

/- What the document's own Put and PutText answer: the digits of the number, and of the length ahead of the text; of memory that was there nothing turns. -/
namespace Go.Proofs.YtcgknkbigbbfdaaDoor.Wire
open Go.RowKit

set_option maxRecDepth 100000 in
theorem conv_one (w : World) (c : UInt8) :
    (convert 46 9 (.slice (some ⟨w.heap.size, 0, none⟩) 1 1)).run Tryd.prog (w.alloc (.cells #[.int .u8 (c.toNat : Int)] 5)) = .ok (.string (str [c])) (w.alloc (.cells #[.int .u8 (c.toNat : Int)] 5)) := by
  have := run_convert_bytes_arg (P := Tryd.prog) (w.alloc (.cells #[.int .u8 (c.toNat : Int)] 5)) 46 5 Tryd.underlying46 Tryd.underlying5 w.heap.size 0 1 1 [(c.toNat : Int)] rfl (fun i hi => by
    obtain rfl : i = 0 := by omega
    simp [go_sem]) 9 Tryd.underlying9
  rw [this]
  congr 2
  simp [strOfNums, str]
theorem conv_lo (n : Nat) (h : n < 128) (w : World) :
    (convert 46 9 (.slice (some ⟨w.heap.size, 0, none⟩) 1 1)).run Tryd.prog (w.alloc (.cells #[.int .u8 (n : Int)] 5)) = .ok (.string (str (putL n))) (w.alloc (.cells #[.int .u8 (n : Int)] 5)) := by
  have := conv_one w (UInt8.ofNat n)
  rw [byte_lo h, ← putL_lt h] at this
  exact this
theorem str_append (a b : List UInt8) : str a ++ str b = str (a ++ b) := by
  apply ByteArray.ext
  rw [ByteArray.data_append]
  simp [str]
theorem or_mod (n : Nat) : bits .or .u8 ((n : Int) % 128) 128 = ((UInt8.ofNat (n % 128 + 128)).toNat : Int) := by
  rw [u8_or128_right _ (by omega) (by omega), byte_hi]
  omega

set_option maxRecDepth 100000 in
set_option maxHeartbeats 1000000 in
theorem refPut_any (U : Nat) (hU : U < 18446744073709551616) (w : World) :
    Calls Tryd.prog 48 #[.int .u64 U] w fun e w' => e = .returned (.string (str (putL U))) ∧ Below w.heap.size w w' := by
  have hten := putL_ten hU
  go_enter Tryd.func48, Tryd.ntmps48
  go_wp2
  go_loopw [0, 3] (fun u v wr => ∃ (n : Nat) (xs : List UInt8), n < 18446744073709551616 ∧ u = .int .u64 n ∧ v = .string (str xs) ∧ putL U = xs ++ putL n ∧ Below w.heap.size w wr)
    (fun u _ _ => (intOf u).toNat)
  case atStart => exact ⟨U, [], hU, rfl, rfl, rfl, Below.refl _ _⟩
  case round =>
    obtain ⟨n, xs, hn, rfl, rfl, hput, hb⟩ := hrel
    have HP := Lib.hid hput
    have hlen : xs.length + 1 ≤ 10 := by have := congrArg List.length hput; have := putL_pos n; simp at *; omega
    clear hput
    have hxs : (str xs).size ≤ 10 := by rw [str_size]; omega
    by_cases h128 : n < 128
    · have hconv := conv_lo n h128 wr
      have hsz : (str (putL n)).size ≤ 10 := by rw [str_size, putL_lt h128]; simp
      go_wp2
      go_ret
      exact ⟨by rw [str_append, ← HP.out]; rfl, hb.alloc hb.size _⟩
    · have hbits := or_mod n
      obtain ⟨c, hc⟩ : ∃ c, c = UInt8.ofNat (n % 128 + 128) := ⟨_, rfl⟩
      rw [← hc] at hbits
      have HC := Lib.hid hc
      clear hc
      have hconv := conv_one wr c
      have hsz : (str [c]).size ≤ 10 := by rw [str_size]; simp
      go_wp2
      go_roundw
      case rel => exact ⟨n / 128, xs ++ [c], by omega, by go_num, by rw [str_append], by rw [HP.out, putL_ge (by omega), ← HC.out]; simp, hb.alloc hb.size _⟩
      case measure => simp [intOf]; omega

set_option maxRecDepth 100000 in
set_option maxHeartbeats 1000000 in
theorem refPutText_any (t : ByteArray) (ht : t.size ≤ 4611686018427387904) (w : World) :
    Calls Tryd.prog 49 #[.string t] w fun e w' => e = .returned (.string (str (putL t.size) ++ t)) ∧ Below w.heap.size w w' := by
  have hten := putL_ten (u := t.size) (by omega)
  have hsz := str_size (putL t.size)
  have HP := Lib.hid (refPut_any t.size (by omega))
  obtain ⟨q, hq⟩ : ∃ q, q = str (putL t.size) := ⟨_, rfl⟩
  rw [← hq] at HP hsz ⊢
  have hq' : q.size ≤ 10 := by omega
  clear hsz hten hq
  go_enter Tryd.func49, Tryd.ntmps49
  go_wp2_with (go_at_call 48; refine (HP.out _).mono ?_; rintro e w1 ⟨rfl, hb⟩)
  go_ret
  exact ⟨rfl, hb⟩
end Go.Proofs.YtcgknkbigbbfdaaDoor.Wire

/- What the document's own Get and GetText answer, by the same plain functions as the program's. -/
namespace Go.Proofs.YtcgknkbigbbfdaaDoor.Wire
open Go.RowKit

theorem refGet_yes (s : ByteArray) (hs : s.size ≤ 9223372036854775797) (p : Int) (u n : Nat) (h : getV s.data.toList p = some (u, n)) (w : World) :
    Calls Tryd.prog 31 #[.string s, .int .i64 p] w fun e w' => e = .returned (.tuple #[.int .u64 u, .int .i64 n, .bool true]) ∧ w = w' := by
  have := refGet_any s hs p w
  rw [h] at this
  exact this
theorem refGet_no (s : ByteArray) (hs : s.size ≤ 9223372036854775797) (p : Int) (h : getV s.data.toList p = none) (w : World) :
    Calls Tryd.prog 31 #[.string s, .int .i64 p] w fun e w' => e = .returned (.tuple #[.int .u64 0, .int .i64 0, .bool false]) ∧ w = w' := by
  have := refGet_any s hs p w
  rw [h] at this
  exact this

set_option maxRecDepth 100000 in
set_option maxHeartbeats 1000000 in
theorem refText_yes (s : ByteArray) (hs : s.size ≤ 9223372036854775797) (p most : Int) (hmost : most ≤ 9223372036854775807) (a n : Nat) (h : textV s.data.toList p most = some (a, n)) (w : World) :
    Calls Tryd.prog 55 #[.string s, .int .i64 p, .int .i64 most] w fun e w' => e = .returned (.tuple #[.string (s.extract a n), .int .i64 n, .bool true]) ∧ w = w' := by
  unfold textV at h
  split at h
  · simp at h
  rename_i x hg
  split at h
  · simp at h
  rename_i hc
  simp only [Option.some.injEq, Prod.mk.injEq] at h
  obtain ⟨u, from'⟩ := x
  simp only at h hc
  have hlt := getV_lt hg
  rw [size_list] at hc hlt
  have HG := Lib.hid (refGet_yes s hs p u from' hg)
  have h1 : 0 ≤ most := by omega
  have h2 : (u : Int) ≤ most := by omega
  have h3 : (u : Int) ≤ (s.size : Int) - (from' : Int) := by omega
  have h4 : from' ≤ s.size := by omega
  obtain ⟨rfl, rfl⟩ := h
  clear hg hc hlt
  go_enter Tryd.func55, Tryd.ntmps55
  go_wp2_with (go_at_call 31; refine (HG.out _).mono ?_; rintro e w1 ⟨rfl, rfl⟩)
  go_ret3
  exact ⟨by go_num, rfl⟩

set_option maxRecDepth 100000 in
set_option maxHeartbeats 1000000 in
theorem refText_no (s : ByteArray) (hs : s.size ≤ 9223372036854775797) (p most : Int) (hmost : most ≤ 9223372036854775807) (h : textV s.data.toList p most = none) (w : World) :
    Calls Tryd.prog 55 #[.string s, .int .i64 p, .int .i64 most] w fun e w' => e = .returned (.tuple #[.string ⟨#[]⟩, .int .i64 0, .bool false]) ∧ w = w' := by
  unfold textV at h
  split at h
  · rename_i hg
    have HG := Lib.hid (refGet_no s hs p hg)
    clear hg h
    go_enter Tryd.func55, Tryd.ntmps55
    go_wp2_with (go_at_call 31; refine (HG.out _).mono ?_; rintro e w1 ⟨rfl, rfl⟩)
    go_ret3
    exact ⟨rfl, rfl⟩
  · rename_i x hg
    obtain ⟨u, from'⟩ := x
    simp only [ite_eq_left_iff, reduceCtorEq, imp_false, Decidable.not_not] at h
    have hlt := getV_lt hg
    rw [size_list] at h hlt
    have HG := Lib.hid (refGet_yes s hs p u from' hg)
    have h4 : from' ≤ s.size := by omega
    have hu : (u : Int) ≤ 18446744073709551615 := by omega
    clear hg hlt
    by_cases h1 : most < 0
    · clear h
      go_enter Tryd.func55, Tryd.ntmps55
      go_wp2_with (go_at_call 31; refine (HG.out _).mono ?_; rintro e w1 ⟨rfl, rfl⟩)
      go_ret3
      exact ⟨rfl, rfl⟩
    · by_cases h2 : most < (u : Int)
      · clear h
        go_enter Tryd.func55, Tryd.ntmps55
        go_wp2_with (go_at_call 31; refine (HG.out _).mono ?_; rintro e w1 ⟨rfl, rfl⟩)
        go_ret3
        exact ⟨rfl, rfl⟩
      · have h3 : (s.size : Int) - (from' : Int) < (u : Int) := by omega
        clear h
        go_enter Tryd.func55, Tryd.ntmps55
        go_wp2_with (go_at_call 31; refine (HG.out _).mono ?_; rintro e w1 ⟨rfl, rfl⟩)
        go_ret3
        exact ⟨rfl, rfl⟩

end Go.Proofs.YtcgknkbigbbfdaaDoor.Wire

/- What the document's own term tells of any place of any text; of memory that was there nothing turns. -/
namespace Go.Proofs.YtcgknkbigbbfdaaDoor.Sel
open Go.RowKit Go.Proofs.YtcgknkbigbbfdaaDoor.Texts Go.Proofs.YtcgknkbigbbfdaaDoor.Word Go.Proofs.YtcgknkbigbbfdaaDoor.Forms Go.Proofs.YtcgknkbigbbfdaaDoor.Boxes

theorem refOneText_yes (s : ByteArray) (hs : s.size ≤ 9223372036854775797) (p : Int) (x : ByteArray) (q : Int) (h : oneText s p = some (x, q)) (w : World) :
    Calls Tryd.prog 55 #[.string s, .int .i64 p, .int .i64 32] w fun e w' => e = .returned (.tuple #[.string x, .int .i64 q, .bool true]) ∧ w = w' := by
  unfold oneText at h
  split at h
  · cases h
  rename_i a ha
  simp only [Option.some.injEq, Prod.mk.injEq] at h
  obtain ⟨rfl, rfl⟩ := h
  exact Wire.refText_yes s hs p 32 (by decide) a.1 a.2 ha w
theorem refOneText_no (s : ByteArray) (hs : s.size ≤ 9223372036854775797) (p : Int) (h : oneText s p = none) (w : World) :
    Calls Tryd.prog 55 #[.string s, .int .i64 p, .int .i64 32] w fun e w' => e = .returned (.tuple #[.string ⟨#[]⟩, .int .i64 0, .bool false]) ∧ w = w' := by
  unfold oneText at h
  split at h
  · rename_i ha
    exact Wire.refText_no s hs p 32 (by decide) ha w
  · cases h
/-- What term tells. -/
def TermG (r : Option (Tm × Int)) (w : World) (e : Ending) (w' : World) : Prop := (match r with
  | none => e = .returned (.tuple #[.agg #[.string ⟨#[]⟩, .bool false, .slice none 0 0], .int .i64 0, .bool false])
  | some x => ∃ v, e = .returned (.tuple #[v, .int .i64 x.2, .bool true]) ∧ TNew w.heap.size w' v x.1) ∧ Below w.heap.size w w'
set_option maxHeartbeats 1000000 in
set_option maxRecDepth 100000 in
theorem term_text (s : ByteArray) (p : Int) (q1 : Int) (n : Nat) (q2 : Int) (y : Bool) (w : World)
    (HT : Hid (∀ W, Calls Tryd.prog 55 #[.string s, .int .i64 p, .int .i64 32] W fun e w' => e = .returned (.tuple #[.string ⟨#[]⟩, .int .i64 q1, .bool false]) ∧ W = w'))
    (HG : Hid (∀ W, Calls Tryd.prog 31 #[.string s, .int .i64 q1] W fun e w' => e = .returned (.tuple #[.int .u64 n, .int .i64 q2, .bool y]) ∧ W = w')) :
    Calls Tryd.prog 32 #[.string s, .int .i64 p] w (TermG none w) := by
  obtain ⟨e0, e1, e2, _⟩ := cells3 (fresh w (.cells #[.string ⟨#[]⟩, .bool false, .slice none 0 0] 59))
  have hb := grew w (.cells #[.string ⟨#[]⟩, .bool false, .slice none 0 0] 59)
  go_enter Tryd.func32, Tryd.ntmps32
  go_wp2_with fail
  with_reducible refine (HT.out _).mono ?_
  rintro e _ ⟨rfl, rfl⟩
  go_wp2_with fail
  with_reducible refine (HG.out _).mono ?_
  rintro e _ ⟨rfl, rfl⟩
  go_wp2
  refine bodyPost_ret (v := .tuple #[.agg #[.string ⟨#[]⟩, .bool false, .slice none 0 0], .int .i64 0, .bool false]) (by simp [results, Tryd.results32, go_sem, e0, e1, e2]) rfl ?_
  exact ⟨rfl, hb⟩
set_option maxHeartbeats 1000000 in
set_option maxRecDepth 100000 in
theorem term_number (s : ByteArray) (p : Int) (k : ByteArray) (q1 : Int) (w : World)
    (HT : Hid (∀ W, Calls Tryd.prog 55 #[.string s, .int .i64 p, .int .i64 32] W fun e w' => e = .returned (.tuple #[.string k, .int .i64 q1, .bool true]) ∧ W = w'))
    (HG : Hid (∀ W, Calls Tryd.prog 31 #[.string s, .int .i64 q1] W fun e w' => e = .returned (.tuple #[.int .u64 0, .int .i64 0, .bool false]) ∧ W = w')) :
    Calls Tryd.prog 32 #[.string s, .int .i64 p] w (TermG none w) := by
  obtain ⟨e0, e1, e2, _⟩ := cells3 (fresh w (.cells #[.string ⟨#[]⟩, .bool false, .slice none 0 0] 59))
  have hb := grew w (.cells #[.string ⟨#[]⟩, .bool false, .slice none 0 0] 59)
  go_enter Tryd.func32, Tryd.ntmps32
  go_wp2_with fail
  with_reducible refine (HT.out _).mono ?_
  rintro e _ ⟨rfl, rfl⟩
  go_wp2_with fail
  with_reducible refine (HG.out _).mono ?_
  rintro e _ ⟨rfl, rfl⟩
  go_wp2
  refine bodyPost_ret (v := .tuple #[.agg #[.string ⟨#[]⟩, .bool false, .slice none 0 0], .int .i64 0, .bool false]) (by simp [results, Tryd.results32, go_sem, e0, e1, e2]) rfl ?_
  exact ⟨rfl, hb⟩
set_option maxHeartbeats 1000000 in
set_option maxRecDepth 100000 in
theorem term_great (s : ByteArray) (p : Int) (k : ByteArray) (q1 : Int) (n : Nat) (q2 : Int) (hn : 9 < n) (w : World)
    (HT : Hid (∀ W, Calls Tryd.prog 55 #[.string s, .int .i64 p, .int .i64 32] W fun e w' => e = .returned (.tuple #[.string k, .int .i64 q1, .bool true]) ∧ W = w'))
    (HG : Hid (∀ W, Calls Tryd.prog 31 #[.string s, .int .i64 q1] W fun e w' => e = .returned (.tuple #[.int .u64 n, .int .i64 q2, .bool true]) ∧ W = w')) :
    Calls Tryd.prog 32 #[.string s, .int .i64 p] w (TermG none w) := by
  have hnz : (9 : Int) < (n : Int) := by omega
  obtain ⟨e0, e1, e2, _⟩ := cells3 (fresh w (.cells #[.string ⟨#[]⟩, .bool false, .slice none 0 0] 59))
  have hb := grew w (.cells #[.string ⟨#[]⟩, .bool false, .slice none 0 0] 59)
  go_enter Tryd.func32, Tryd.ntmps32
  go_wp2_with fail
  with_reducible refine (HT.out _).mono ?_
  rintro e _ ⟨rfl, rfl⟩
  go_wp2_with fail
  with_reducible refine (HG.out _).mono ?_
  rintro e _ ⟨rfl, rfl⟩
  go_wp2
  refine bodyPost_ret (v := .tuple #[.agg #[.string ⟨#[]⟩, .bool false, .slice none 0 0], .int .i64 0, .bool false]) (by simp [results, Tryd.results32, go_sem, e0, e1, e2]) rfl ?_
  exact ⟨rfl, hb⟩

/-- What the values tell of a term whose key and number are read. -/
def valuedR (k : ByteArray) (b : Bool) (r : Option (List ByteArray × Int)) : Option (Tm × Int) := match r with
  | none => none
  | some vs => some ((k, b, vs.1), vs.2)
set_option maxHeartbeats 4000000 in
set_option maxRecDepth 100000 in
theorem refTerm_go (s : ByteArray) (hs : s.size ≤ 9223372036854775797) (p : Int) (k : ByteArray) (q1 : Int) (n m : Nat) (b : Bool) (q2 : Nat) (hn : n ≤ 9) (hb0 : b = decide (n % 2 = 1)) (hm0 : m = n / 2) (h : oneText s p = some (k, q1)) (hg : Wire.getV s.data.toList q1 = some (n, q2)) (w : World) :
    Calls Tryd.prog 32 #[.string s, .int .i64 p] w (TermG (valuedR k b (readN (oneText s) m (q2 : Int))) w) := by
  obtain ⟨i0, hi, hz0, hz1, hz2⟩ := info_parts infoS
  have HT := Lib.hid (refOneText_yes s hs p k q1 h)
  have HG := Lib.hid (Wire.refGet_yes s hs q1 n q2 hg)
  have hrem : ((n : Int) % 2 == 1) = b := by rw [hb0, Bool.eq_iff_iff, beq_iff_eq, decide_eq_true_eq]; omega
  have hrem2 : ((n : Int).tmod 2 == 1) = b := by rw [Int.tmod_eq_emod_of_nonneg (by omega)]; exact hrem
  have hquo : (n : Int) / 2 = (m : Int) := by omega
  have hquo2 : (n : Int).tdiv 2 = (m : Int) := by rw [Int.tdiv_eq_ediv_of_nonneg (by omega)]; exact hquo
  have hwm : IntKind.i64.wrap (m : Int) = (m : Int) := by rw [IntKind.wrap_i64]; omega
  have hn9 : ¬ (9 : Int) < (n : Int) := by omega
  have hn9d : decide ((9 : Int) < (n : Int)) = false := decide_eq_false hn9
  have hn9e : decide (9 < n) = false := decide_eq_false (by omega)
  have hm4 : m ≤ 4 := by omega
  have h0 : ∀ o p, ((w.alloc o).alloc p).heap[w.heap.size]? = some o := fun o p => keep (fresh w o) (old _ _)
  have hbb : ∀ o p, Below w.heap.size w ((w.alloc o).alloc p) := fun o p => grows (grew w o) (grew _ p)
  have H0 := Lib.hid h0
  have HBB := Lib.hid hbb
  clear h hg hb0 hm0 hn h0 hbb
  go_enter Tryd.func32, Tryd.ntmps32
  go_wp2_with fail
  with_reducible refine (HT.out _).mono ?_
  rintro e _ ⟨rfl, rfl⟩
  go_wp2_with fail
  with_reducible refine (HG.out _).mono ?_
  rintro e _ ⟨rfl, rfl⟩
  go_wp2_with fail
  go_loopw [1, 13] (fun at' i wr => ∃ (j : Nat) (done : List ByteArray) (q : Int) (v : Value), j ≤ m ∧ i = .int .i64 j ∧ at' = .int .i64 q ∧ done.length = j ∧ Forms.ahead done (readN (oneText s) (m - j) q) = readN (oneText s) m (q2 : Int) ∧ wr.heap[w.heap.size + 1]? = some (.cells #[.string k, .bool b, v] 59) ∧
    wr.heap[w.heap.size]? = some (.cells #[.string ⟨#[]⟩, .bool false, .slice none 0 0] 59) ∧ wr.ownsRow (w.heap.size + 2) 9 1 v j (svals done) ∧ Below w.heap.size w wr ∧ w.heap.size + 2 ≤ wr.heap.size) (fun _ i _ => m - (intOf i).toNat)
  case atStart => exact ⟨0, [], q2, _, Nat.zero_le _, rfl, rfl, rfl, ahead_nil _, fresh1 w _ _, H0.out _ _, World.ownsRow_nil _ _ _ _, HBB.out _ _, by rw [size_alloc, size_alloc]; omega⟩
  case round =>
    obtain ⟨j, done, q, v, hj, rfl, rfl, hdl, hrd, ht, ha, hown, hb, hBr⟩ := hrel
    have HD := Lib.hid hdl
    have HRD := Lib.hid hrd
    have HTT := Lib.hid ht
    have HA := Lib.hid ha
    have HOw := Lib.hid hown
    have hvf : ∃ va vn vc, v = .slice va vn vc := by
      rcases hown.2 with ⟨h, _⟩ | ⟨g, cap, cur, h, _⟩
      · exact ⟨_, _, _, h⟩
      · exact ⟨_, _, _, h⟩
    obtain ⟨va, vn, vc, rfl⟩ := hvf
    obtain ⟨c0, c1, c2, f0, f1, f2⟩ := cells3 ht
    have hltT := lt_of ht
    by_cases hlt : j < m
    · have hltz : (j : Int) < (m : Int) := by omega
      cases hone : oneText s q with
      | some x =>
        obtain ⟨x, q'⟩ := x
        have HX := Lib.hid (refOneText_yes s hs q x q' hone)
        have HRD2 : Hid (Forms.ahead (done ++ [x]) (readN (oneText s) (m - (j + 1)) q') = readN (oneText s) m (q2 : Int)) := Lib.hid (by rw [← HRD.out, show m - j = (m - (j + 1)) + 1 by omega, readN_go hone])
        have HMax : Hid (j + 1 ≤ maxLen ∧ (j + 1) * 16 ≤ 140737488355328) := Lib.hid (by unfold maxLen; omega)
        have c2a : (World.alloc wr (.cells #[.string x] 9)).cell? ⟨w.heap.size + 1, 2, none⟩ = some (.slice va vn vc) := cell_at (i := 2) (keep ht (old _ _)) rfl
        clear hdl hrd ha hown hone
        go_wp2_with fail
        with_reducible refine (HX.out _).mono ?_
        rintro e _ ⟨rfl, rfl⟩
        go_wp2_with (at_builtin; refine wpList_append_lies _ rfl _ _ 49 rfl (w.heap.size + 2) 9 i0 (.string ByteArray.empty) 1 16 Tryd.underlying49 hi hz0 hz1 hz2 rfl (by decide) (.slice va vn vc) j (svals done) rfl (World.ownsRow.alloc HOw.out _) ⟨wr.heap.size, 0, none⟩ 1 1 [.string x] rfl rfl (cell_one_new wr _ _) (fun u hu => by simp at hu; subst hu; rfl) (by decide) HMax.out.1 HMax.out.2 (by rw [size_alloc]; omega) (wr.heap.size + 1) (size_alloc _ _) ?_)
        intro g5 cap5 w5 hown5 hgrow5 hat5 _
        have hvo : ∀ g, (Value.slice va vn vc).ownBlock = some g → w.heap.size + 2 ≤ g := fun g hg => (HOw.out.lt g hg).1
        have hT5 := after HTT.out hgrow5 (fun e => by have := hvo _ e; omega)
        have hA5 := after HA.out hgrow5 (fun e => by have := hvo _ e; omega)
        have HT5 := Lib.hid hT5
        have HA5 := Lib.hid hA5
        obtain ⟨_, _, e2, _, _, g2⟩ := cells3 hT5
        have h5s := hgrow5.size
        rw [size_alloc] at h5s
        have HB5 : Hid (Below w.heap.size w w5) := Lib.hid ((hb.alloc hb.size _).grown hgrow5 (by rw [size_alloc]; have := hb.size; omega) (fun g hg => by have := hvo g hg; omega))
        have HOwn5 := Lib.hid hown5
        clear hown5 hgrow5 hat5 hT5 hA5 c2a c0 c1 c2 f0 f1 f2 ht hvo
        go_wp2
        go_roundw
        case rel =>
          refine ⟨j + 1, done ++ [x], q', _, by omega, by go_num, rfl, by rw [List.length_append, HD.out]; rfl, HRD2.out, heap_setCell_same _ _ 2 _ _ _ HT5.out, (heap_setCell_other _ _ _ _ (by simp)).trans HA5.out, ?_, HB5.out.setCell (by show w.heap.size ≤ w.heap.size + 1; omega) _, by simp; omega⟩
          rw [svals_snoc]
          exact ownsRow_setCell_below HOwn5.out (by simp) _
        case measure => simp [intOf]; omega
      | none =>
        have HX := Lib.hid (refOneText_no s hs q hone)
        have HNo : Hid (readN (oneText s) m (q2 : Int) = none) := Lib.hid (by rw [← HRD.out, show m - j = (m - (j + 1)) + 1 by omega, readN_stop hone])
        obtain ⟨d0, d1, d2, f0, f1, f2⟩ := cells3 ha
        obtain ⟨e0, e1, e2, _⟩ := cells3 (set3_box ha (.string ⟨#[]⟩) (.bool false) (.slice none 0 0))
        have HZ := Lib.hid (set3_below (a := .string ⟨#[]⟩) (b := .bool false) (c := .slice none 0 0) (T := w.heap.size) hb (Nat.le_refl _))
        unfold set3 at e0 e1 e2 HZ
        clear hdl hrd ht ha hown hone
        go_wp2_with fail
        with_reducible refine (HX.out _).mono ?_
        rintro e _ ⟨rfl, rfl⟩
        go_wp2
        refine bodyPost_ret (v := .tuple #[.agg #[.string ⟨#[]⟩, .bool false, .slice none 0 0], .int .i64 0, .bool false]) (by simp [results, Tryd.results32, go_sem, e0, e1, e2]) rfl ?_
        rw [HNo.out]
        exact ⟨rfl, HZ.out⟩
    · have hltz : ¬ ((j : Int) < (m : Int)) := by omega
      have hjm : j = m := by omega
      have hsr : SRow wr (.slice va vn vc) done := own_srow (T := 9) (by rw [hdl]; exact hown)
      have hsn : SNew (w.heap.size + 2) wr (.slice va vn vc) done := ⟨hsr, fun g o n c e hn => by
        cases va with
        | none => cases e
        | some a =>
          injection e with e1 _ _
          injection e1 with e1
          subst e1
          exact (HOw.out.lt g rfl).1⟩
      have HFin : Hid (valuedR k b (readN (oneText s) m (q2 : Int)) = some ((k, b, done), q)) := Lib.hid (by
        rw [← HRD.out, hjm, Nat.sub_self]
        simp [readN, Forms.ahead, valuedR])
      obtain ⟨d0, d1, d2, p0, p1, p2⟩ := cells3 ha
      obtain ⟨e0, e1, e2, _⟩ := cells3 (set3_box ha (.string k) (.bool b) (.slice va vn vc))
      have HZ := Lib.hid (set3_below (a := .string k) (b := .bool b) (c := .slice va vn vc) (T := w.heap.size) hb (Nat.le_refl _))
      have HR : Hid (SNew w.heap.size (set3 w.heap.size (.string k) (.bool b) (.slice va vn vc) wr) (.slice va vn vc) done) := Lib.hid ((hsn.but ((((But.refl w.heap.size wr).set 0 _).set 1 _).set 2 _) (by omega)).mono (by omega))
      unfold set3 at e0 e1 e2 HZ HR
      clear hdl hrd ht ha hown hsr hsn
      go_wp2
      refine bodyPost_ret (v := .tuple #[.agg #[.string k, .bool b, .slice va vn vc], .int .i64 q, .bool true]) (by simp [results, Tryd.results32, go_sem, e0, e1, e2]) rfl ?_
      rw [HFin.out]
      exact ⟨⟨_, rfl, _, rfl, HR.out⟩, HZ.out⟩
end Go.Proofs.YtcgknkbigbbfdaaDoor.Sel

/- What the document's own Same answers of any two selectors; of memory that was there nothing turns. -/
namespace Go.Proofs.YtcgknkbigbbfdaaDoor.Sel
open Go.RowKit Go.Proofs.YtcgknkbigbbfdaaDoor.Texts Go.Proofs.YtcgknkbigbbfdaaDoor.Word Go.Proofs.YtcgknkbigbbfdaaDoor.Forms Go.Proofs.YtcgknkbigbbfdaaDoor.Boxes Go.Proofs.YtcgknkbigbbfdaaDoor.Label

set_option maxHeartbeats 8000000 in
set_option maxRecDepth 100000 in
theorem refSame_any (u v : Value) (xs ys : List Tm) (w : World) (hu : TRow w u xs) (hv : TRow w v ys) (hl : Sel.Fair xs) :
    Calls Tryd.prog 15 #[u, v] w fun e w' => e = .returned (.bool (decide (xs = ys))) ∧ Below w.heap.size w w' := by
  obtain ⟨a, cap, rfl, _, _⟩ := hu.slice
  obtain ⟨a', cap', rfl, _, _⟩ := hv.slice
  have hl1 := hl.1
  by_cases hn : xs.length = ys.length
  · have HU := Lib.hid hu
    have HV := Lib.hid hv
    have HN := Lib.hid hn
    have HL := Lib.hid hl
    have hne : ((xs.length : Int) != (ys.length : Int)) = false := by simp; omega
    have hne' : ((xs.length : Int) == (ys.length : Int)) = true := by simp; omega
    obtain ⟨D, hD⟩ : ∃ b, b = decide (xs = ys) := ⟨_, rfl⟩
    have HNo : Hid (∀ k x y, xs[k]? = some x → ys[k]? = some y → x ≠ y → D = false) := Lib.hid fun k x y hx hy he => by rw [hD]; exact decide_eq_false (at_same hx hy he)
    have HYes : Hid (xs.take xs.length = ys.take xs.length → D = true) := Lib.hid fun h => by rw [hD]; rw [List.take_length, hn, List.take_length] at h; exact decide_eq_true h
    rw [← hD]
    clear hu hv hn hl hD
    go_enter Tryd.func15, Tryd.ntmps15
    go_wp2_with fail
    go_loopw [5] (fun i wr => ∃ k : Nat, k ≤ xs.length ∧ i = .int .i64 k ∧ xs.take k = ys.take k ∧ Below w.heap.size w wr) (fun i _ => xs.length - (intOf i).toNat)
    case atStart => exact ⟨0, Nat.zero_le _, rfl, rfl, Below.refl _ _⟩
    case round =>
      obtain ⟨wa, hwa⟩ : ∃ x, x = wr := ⟨_, rfl⟩
      subst hwa
      obtain ⟨k, hk, rfl, hf, hb⟩ := hrel
      have HF := Lib.hid hf
      clear hf
      by_cases hlt : k < xs.length
      · have hltz : (k : Int) < (xs.length : Int) := by omega
        have hltz' : (k : Int) < (ys.length : Int) := by have := HN.out; omega
        have hlt' : k < ys.length := by have := HN.out; omega
        have hk0 : (0 : Int) ≤ (k : Int) := by omega
        obtain ⟨g, o, rfl, hg, hcell⟩ := (HU.out.below hb).cells hlt
        obtain ⟨g', o', rfl, hg', hcell'⟩ := (HV.out.below hb).cells hlt'
        obtain ⟨x, hx⟩ : ∃ x, xs[k]? = some x := ⟨_, List.getElem?_eq_getElem hlt⟩
        obtain ⟨y, hy⟩ : ∃ y, ys[k]? = some y := ⟨_, List.getElem?_eq_getElem hlt'⟩
        obtain ⟨c0, c1, s, c2, hs⟩ := hcell k x hx
        obtain ⟨sa, sc, rfl, _, _⟩ := hs.slice
        obtain ⟨d0, d1, s', d2, hs'⟩ := hcell' k y hy
        obtain ⟨sa', sc', rfl, _, _⟩ := hs'.slice
        have HX := Lib.hid hx
        have HY := Lib.hid hy
        have hvl := (HL.out.2 x (List.mem_of_getElem? hx)).2.1
        obtain ⟨xk, xn, xv⟩ := x
        obtain ⟨yk, yn, yv⟩ := y
        simp only at c0 c1 c2 d0 d1 d2 hs hs' hvl
        have q0 := Quiet.cell (a := ⟨g, o + k * 3, none⟩) hg c0
        have q1 := Quiet.cell (a := ⟨g, o + k * 3 + 1, none⟩) hg c1
        have q2 := Quiet.cell (a := ⟨g, o + k * 3 + 2, none⟩) hg c2
        have p0 := Quiet.cell (a := ⟨g', o' + k * 3, none⟩) hg' d0
        have p1 := Quiet.cell (a := ⟨g', o' + k * 3 + 1, none⟩) hg' d1
        have p2 := Quiet.cell (a := ⟨g', o' + k * 3 + 2, none⟩) hg' d2
        have HCa : Hid (∀ W, Below wa.heap.size wa W → W.cell? ⟨g, o + k * 3 + 2, none⟩ = some (.slice sa xv.length sc) ∧ W.cell? ⟨g', o' + k * 3 + 2, none⟩ = some (.slice sa' yv.length sc')) := Lib.hid fun W h => ⟨(h.cell (p := ⟨g, o + k * 3 + 2, none⟩) hg).trans c2, (h.cell (p := ⟨g', o' + k * 3 + 2, none⟩) hg').trans d2⟩
        have HSx := Lib.hid hs
        have HSy := Lib.hid hs'
        clear hx hy hs hs' hcell hcell' c0 c1 c2 d0 d1 d2
        obtain ⟨r1, hr1⟩ : ∃ r, (xk.toList == yk.toList) = r := ⟨_, rfl⟩
        have HR1 : Hid (decide (xk = yk) = r1) := Lib.hid (by rw [← beq_str]; exact hr1)
        cases r1 with
        | false =>
          have HE : Hid (D = false) := Lib.hid (HNo.out k _ _ HX.out HY.out (fun e => of_decide_eq_false HR1.out (by injection e)))
          go_wp2_with fail
          refine Quiet.region (by kernel_rfl) (by kernel_rfl) ?_
          repeat (go_big_quiet_step (fail))
          refine wpQuiet_nil ?_
          rintro _ ⟨pq, rfl⟩
          have hq := grows hb pq.below
          generalize pq.world = wq at hq ⊢
          go_wp2
          go_ret
          exact ⟨by rw [HE.out]; rfl, hq⟩
        | true =>
          by_cases hxy : xn = yn
          · subst hxy
            have hb1 : (xn != xn) = false := by simp
            have hb2 : (xn == xn) = true := by simp
            by_cases hvl2 : xv.length = yv.length
            · have hv1 : ((xv.length : Int) != (yv.length : Int)) = false := by simp; omega
              have hv2 : ((xv.length : Int) == (yv.length : Int)) = true := by simp; omega
              have HVL := Lib.hid hvl2
              clear hvl2
              go_wp2_with fail
              refine Quiet.region (by kernel_rfl) (by kernel_rfl) ?_
              repeat (go_big_quiet_step (fail))
              refine wpQuiet_nil ?_
              rintro _ ⟨pq, rfl⟩
              have hqa := pq.below
              generalize pq.world = wq at hqa ⊢
              have hq := grows hb hqa
              go_wp2_with fail
              clear q0 q1 q2 p0 p1 p2
              go_loopw [6] (fun i wr => ∃ j : Nat, j ≤ xv.length ∧ i = .int .i64 j ∧ xv.take j = yv.take j ∧ Below wa.heap.size wa wr) (fun i _ => xv.length - (intOf i).toNat)
              case atStart => exact ⟨0, Nat.zero_le _, rfl, rfl, hqa⟩
              case round =>
                obtain ⟨j, hj, rfl, hff, hbq⟩ := hrel
                have HFF := Lib.hid hff
                clear hff
                have hgr : g < wr.heap.size := Nat.lt_of_lt_of_le hg hbq.size
                have hgr' : g' < wr.heap.size := Nat.lt_of_lt_of_le hg' hbq.size
                have c2 := (HCa.out wr hbq).1
                have d2 := (HCa.out wr hbq).2
                by_cases hjl : j < xv.length
                · have hjlz : (j : Int) < (xv.length : Int) := by omega
                  have hjl' : j < yv.length := by have := HVL.out; omega
                  have hjlz' : (j : Int) < (yv.length : Int) := by omega
                  have hj0 : (0 : Int) ≤ (j : Int) := by omega
                  obtain ⟨g2, o2, rfl, hg2, hcell2⟩ := (HSx.out.below hbq).cells hjl
                  obtain ⟨g3, o3, rfl, hg3, hcell3⟩ := (HSy.out.below hbq).cells hjl'
                  obtain ⟨x, hx⟩ : ∃ x, xv[j]? = some x := ⟨_, List.getElem?_eq_getElem hjl⟩
                  obtain ⟨y, hy⟩ : ∃ x, yv[j]? = some x := ⟨_, List.getElem?_eq_getElem hjl'⟩
                  have q2 := Quiet.cell (a := ⟨g, o + k * 3 + 2, none⟩) hgr c2
                  have p2 := Quiet.cell (a := ⟨g', o' + k * 3 + 2, none⟩) hgr' d2
                  have q3 := Quiet.cell (a := ⟨g2, o2 + j, none⟩) hg2 (hcell2 j x hx)
                  have p3 := Quiet.cell (a := ⟨g3, o3 + j, none⟩) hg3 (hcell3 j y hy)
                  have HXX := Lib.hid hx
                  have HYY := Lib.hid hy
                  clear hx hy hcell2 hcell3
                  obtain ⟨r2, hr2⟩ : ∃ r, (x.toList == y.toList) = r := ⟨_, rfl⟩
                  have HR2 : Hid (decide (x = y) = r2) := Lib.hid (by rw [← beq_str]; exact hr2)
                  cases r2 with
                  | true =>
                    go_wp2_with fail
                    refine Quiet.region (by kernel_rfl) (by kernel_rfl) ?_
                    repeat (go_big_quiet_step (fail))
                    refine wpQuiet_nil ?_
                    rintro _ ⟨pq, rfl⟩
                    have hq2 := grows hbq pq.below
                    generalize pq.world = wz at hq2 ⊢
                    go_wp2
                    go_roundw
                    case rel => exact ⟨j + 1, by omega, by go_num, take_same HXX.out HYY.out HFF.out (of_decide_eq_true HR2.out), hq2⟩
                    case measure => simp [intOf]; omega
                  | false =>
                    have HE : Hid (D = false) := Lib.hid (HNo.out k _ _ HX.out HY.out (fun e => at_same HXX.out HYY.out (of_decide_eq_false HR2.out) (by injection e with _ e; injection e)))
                    go_wp2_with fail
                    refine Quiet.region (by kernel_rfl) (by kernel_rfl) ?_
                    repeat (go_big_quiet_step (fail))
                    refine wpQuiet_nil ?_
                    rintro _ ⟨pq, rfl⟩
                    have hq2 := grows hbq pq.below
                    generalize pq.world = wz at hq2 ⊢
                    go_wp2
                    go_ret
                    exact ⟨by rw [HE.out]; rfl, grows hb hq2⟩
                · obtain rfl : j = xv.length := by omega
                  have HE : Hid (xv = yv) := Lib.hid (by have h1 := HFF.out; have h2 := HVL.out; rw [List.take_length, h2, List.take_length] at h1; exact h1)
                  have HK : Hid (decide (xk = yk) = true) := HR1
                  go_wp2
                  go_roundw
                  case rel => exact ⟨k + 1, by omega, by go_num, take_same HX.out HY.out HF.out (by rw [HE.out, of_decide_eq_true HK.out]), grows hb hbq⟩
                  case measure => simp [intOf]; omega
            · have hv1 : ((xv.length : Int) != (yv.length : Int)) = true := by simp; omega
              have hv2 : ((xv.length : Int) == (yv.length : Int)) = false := by simp; omega
              have HE : Hid (D = false) := Lib.hid (HNo.out k _ _ HX.out HY.out (fun e => hvl2 (by injection e with _ e; injection e with _ e; rw [e])))
              clear hvl2
              go_wp2_with fail
              refine Quiet.region (by kernel_rfl) (by kernel_rfl) ?_
              repeat (go_big_quiet_step (fail))
              refine wpQuiet_nil ?_
              rintro _ ⟨pq, rfl⟩
              have hq := grows hb pq.below
              generalize pq.world = wq at hq ⊢
              go_wp2
              go_ret
              exact ⟨by rw [HE.out]; rfl, hq⟩
          · have HE : Hid (D = false) := Lib.hid (HNo.out k _ _ HX.out HY.out (fun e => hxy (by injection e with _ e; injection e)))
            cases xn with
            | true =>
              obtain rfl : yn = false := by cases yn; rfl; exact absurd rfl hxy
              clear hxy
              go_wp2_with fail
              refine Quiet.region (by kernel_rfl) (by kernel_rfl) ?_
              repeat (go_big_quiet_step (fail))
              refine wpQuiet_nil ?_
              rintro _ ⟨pq, rfl⟩
              have hq := grows hb pq.below
              generalize pq.world = wq at hq ⊢
              go_wp2
              go_ret
              exact ⟨by rw [HE.out]; rfl, hq⟩
            | false =>
              obtain rfl : yn = true := by cases yn; exact absurd rfl hxy; rfl
              clear hxy
              go_wp2_with fail
              refine Quiet.region (by kernel_rfl) (by kernel_rfl) ?_
              repeat (go_big_quiet_step (fail))
              refine wpQuiet_nil ?_
              rintro _ ⟨pq, rfl⟩
              have hq := grows hb pq.below
              generalize pq.world = wq at hq ⊢
              go_wp2
              go_ret
              exact ⟨by rw [HE.out]; rfl, hq⟩
      · obtain rfl : k = xs.length := by omega
        have HE : Hid (D = true) := Lib.hid (HYes.out HF.out)
        go_wp2
        go_ret
        exact ⟨by rw [HE.out]; rfl, hb⟩
  · have hne : ((xs.length : Int) != (ys.length : Int)) = true := by simp; omega
    have hne' : ((xs.length : Int) == (ys.length : Int)) = false := by simp; omega
    have HE : Hid (decide (xs = ys) = false) := Lib.hid (decide_eq_false (fun e => hn (by rw [e])))
    clear hn
    go_enter Tryd.func15, Tryd.ntmps15
    go_wp2
    go_ret
    exact ⟨by rw [HE.out]; rfl, Below.refl _ _⟩
end Go.Proofs.YtcgknkbigbbfdaaDoor.Sel

/- What the document's own Put answers of any selector; of memory that was there nothing turns. -/
namespace Go.Proofs.YtcgknkbigbbfdaaDoor.Sel
open Go.RowKit Go.Proofs.YtcgknkbigbbfdaaDoor.Texts Go.Proofs.YtcgknkbigbbfdaaDoor.Word Go.Proofs.YtcgknkbigbbfdaaDoor.Forms Go.Proofs.YtcgknkbigbbfdaaDoor.Boxes

set_option maxHeartbeats 8000000 in
set_option maxRecDepth 100000 in
theorem refPutS_any (v : Value) (ls : List Tm) (w : World) (hv : TRow w v ls) (hl : Fair ls) :
    Calls Tryd.prog 23 #[v] w fun e w' => e = .returned (.string (putS ls)) ∧ Below w.heap.size w w' := by
  have HR := Lib.hid (refRightS_any v ls w hv hl)
  obtain ⟨q, hq⟩ : ∃ q, rightS ls = q := ⟨_, rfl⟩
  rw [hq] at HR
  have HV := Lib.hid hv
  obtain ⟨a, cap, rfl, _, _⟩ := hv.slice
  clear hv
  cases q with
  | false =>
    have HE : Hid (putS ls = ⟨#[]⟩) := Lib.hid (putS_no hq)
    clear hq
    go_enter Tryd.func23, Tryd.ntmps23
    go_wp2_with fail
    with_reducible refine HR.out.mono ?_
    rintro e w1 ⟨rfl, hb⟩
    go_wp2
    go_ret
    exact ⟨by rw [HE.out]; rfl, hb⟩
  | true =>
    obtain ⟨h4, hts⟩ := rightS_parts hq
    have HTS := Lib.hid hts
    have HE : Hid (putS ls = str (accS ls ls.length)) := Lib.hid (by unfold putS accS; rw [if_pos hq, List.take_length])
    have HPu : Hid (∀ W, Calls Tryd.prog 48 #[.int .u64 (ls.length : Int)] W fun e w' => e = .returned (.string (str (accS ls 0))) ∧ Below W.heap.size W w') := Lib.hid fun W => by
      have h := Wire.refPut_any ls.length (by omega) W
      rw [wire_str] at h
      simpa [accS] using h
    have HAF : Hid (∀ k t, ls[k]? = some t → str (accS ls k ++ accT t t.2.2.length) = str (accS ls (k + 1))) := Lib.hid fun k t ht => by rw [accS_more ht, accT_all]
    have HAS : Hid (∀ k, (str (accS ls k)).size ≤ 1210) := Lib.hid fun k => by rw [str_len]; exact accS_small hq k
    rw [HE.out]
    obtain ⟨F, hF⟩ : ∃ F : Nat → ByteArray, F = fun k => str (accS ls k) := ⟨_, rfl⟩
    have HFE : Hid (∀ k, F k = str (accS ls k)) := Lib.hid fun k => by rw [hF]
    rw [← HFE.out] at HPu ⊢
    have hw1 : IntKind.u64.wrap (ls.length : Int) = (ls.length : Int) := by rw [IntKind.wrap_u64]; omega
    clear hq hts hF HE
    go_enter Tryd.func23, Tryd.ntmps23
    go_wp2_with fail
    with_reducible refine HR.out.mono ?_
    rintro e w1 ⟨rfl, hb⟩
    go_wp2_with fail
    with_reducible refine (HPu.out _).mono ?_
    rintro e w2 ⟨rfl, hb2⟩
    have hb' := grows hb hb2
    have HV2 := Lib.hid (HV.out.below hb')
    clear hb hb2
    go_wp2_with fail
    go_loopw [3, 4] (fun acc i wr => ∃ j : Nat, j ≤ ls.length ∧ i = .int .i64 j ∧ acc = .string (F j) ∧ Below w2.heap.size w2 wr) (fun _ i _ => ls.length - (intOf i).toNat)
    case atStart => exact ⟨0, Nat.zero_le _, rfl, rfl, Below.refl _ _⟩
    case round =>
      obtain ⟨wa, hwa⟩ : ∃ x, x = wr := ⟨_, rfl⟩
      subst hwa
      obtain ⟨j, hj, rfl, rfl, hbr⟩ := hrel
      by_cases hlt : j < ls.length
      · have hltz : (j : Int) < (ls.length : Int) := by omega
        have hj0 : (0 : Int) ≤ (j : Int) := by omega
        obtain ⟨g, o, rfl, hg, hcell⟩ := (HV2.out.below hbr).cells hlt
        obtain ⟨t, ht⟩ : ∃ t, ls[j]? = some t := ⟨_, List.getElem?_eq_getElem hlt⟩
        obtain ⟨c0, c1, s, c2, hs⟩ := hcell j t ht
        obtain ⟨sa, sc, rfl, _, _⟩ := hs.slice
        have hrt := HTS.out t (List.mem_of_getElem? ht)
        obtain ⟨h1, h2, h3, _⟩ := rightT_parts hrt
        have hk32 := name_size h1
        have H32 : Hid (∀ x ∈ t.2.2, x.size ≤ 32) := Lib.hid fun x hx => name_size (h3 x hx)
        have hn9 : numT t ≤ 9 := by unfold numT; split <;> omega
        have HK : Hid (∀ W, Calls Tryd.prog 49 #[.string t.1] W fun e w' => e = .returned (.string (str (flat t.1))) ∧ Below W.heap.size W w') := Lib.hid fun W => by rw [← text_flat]; exact Wire.refPutText_any t.1 (by omega) W
        have HN : Hid (∀ W, Calls Tryd.prog 48 #[.int .u64 (numT t : Int)] W fun e w' => e = .returned (.string (str (Wire.putL (numT t)))) ∧ Below W.heap.size W w') := Lib.hid fun W => by rw [← wire_str]; exact Wire.refPut_any (numT t) (by omega) W
        have HXS : Hid (∀ x ∈ t.2.2, ∀ W, Calls Tryd.prog 49 #[.string x] W fun e w' => e = .returned (.string (str (flat x))) ∧ Below W.heap.size W w') := Lib.hid fun x hx W => by rw [← text_flat]; exact Wire.refPutText_any x (by have := H32.out x hx; omega) W
        have HS := Lib.hid hs
        have hnum : ∀ b, t.2.1 = b → (numT t : Int) = (t.2.2.length : Int) * 2 + (if b = true then 1 else 0) := fun b hb => by unfold numT; rw [hb]; split <;> simp <;> omega
        obtain ⟨H, hH⟩ : ∃ H : Nat → ByteArray, H = fun m => str (accS ls j ++ accT t m) := ⟨_, rfl⟩
        have hz1 : (str (flat t.1)).size ≤ 42 := by rw [str_len]; exact flat_small hk32
        have hz2 : (str (Wire.putL (numT t))).size ≤ 10 := by rw [str_len]; exact Wire.putL_ten (by omega)
        have hzF : (F j).size ≤ 1210 := by rw [HFE.out]; exact HAS.out j
        have hA0 : Hid (F j ++ str (flat t.1) ++ str (Wire.putL (numT t)) = H 0) := Lib.hid (by rw [HFE.out, hH, str_append, str_append]; unfold accT; simp)
        have HA : Hid (∀ m x, t.2.2[m]? = some x → H m ++ str (flat x) = H (m + 1)) := Lib.hid fun m x hx => by rw [hH]; simp only; rw [accT_more hx, str_append, List.append_assoc]
        have HAH : Hid (∀ m, (H m).size ≤ 1600) := Lib.hid fun m => by
          have e1 := HAS.out j
          rw [str_len] at e1
          have e2 := accT_small hrt m
          rw [hH]; simp only; rw [str_len, List.length_append]; omega
        have HHE : Hid (H t.2.2.length = F (j + 1)) := Lib.hid (by rw [hH, HFE.out]; exact HAF.out j t ht)
        have HC2 : Hid (∀ W, Below wa.heap.size wa W → W.cell? ⟨g, o + j * 3 + 2, none⟩ = some (.slice sa t.2.2.length sc)) := Lib.hid fun W h => (h.cell (p := ⟨g, o + j * 3 + 2, none⟩) hg).trans c2
        obtain ⟨f1, hf1⟩ : ∃ f, f = str (flat t.1) := ⟨_, rfl⟩
        obtain ⟨f2, hf2⟩ : ∃ f, f = str (Wire.putL (numT t)) := ⟨_, rfl⟩
        rw [← hf1] at hA0 HK hz1
        rw [← hf2] at hA0 HN hz2
        obtain ⟨N, hN⟩ : ∃ N : Int, N = (numT t : Int) := ⟨_, rfl⟩
        rw [← hN] at HN hnum
        have hadd1 : ∀ w, Sem.run Tryd.prog (Op.stringOp .add (F j) f1) w = .ok (.string (F j ++ f1)) w := fun w => run_string_add_sum w _ _ (by omega)
        have hadd2 : ∀ w, Sem.run Tryd.prog (Op.stringOp .add (F j ++ f1) f2) w = .ok (.string (H 0)) w := fun w => by rw [← hA0.out]; exact run_string_add_sum w _ _ (by rw [ByteArray.size_append]; omega)
        have hl4 : t.2.2.length ≤ 4 := h2
        clear hf1 hf2 hs h1 h2 h3 hn9 hN ht hcell hrt hH
        obtain ⟨k, n, vs⟩ := t
        simp only at *
        have hv1 : IntKind.u64.wrap (vs.length : Int) = (vs.length : Int) := by rw [IntKind.wrap_u64]; omega
        have hv2 : IntKind.u64.wrap ((vs.length : Int) * 2) = (vs.length : Int) * 2 := by rw [IntKind.wrap_u64]; omega
        have hv3 : IntKind.u64.wrap ((vs.length : Int) * 2 + 1) = (vs.length : Int) * 2 + 1 := by rw [IntKind.wrap_u64]; omega
        have hnn : N = (vs.length : Int) * 2 + (if n = true then 1 else 0) := hnum n rfl
        clear hnum
        cases n with
        | true =>
          simp only [if_true] at hnn
          subst hnn
          go_wp2_with fail
          with_reducible refine (HK.out _).mono ?_
          rintro e w3 ⟨rfl, hb3⟩
          go_wp2_with fail
          with_reducible refine (HN.out _).mono ?_
          rintro e w4 ⟨rfl, hb4⟩
          have hbw := grows hbr (grows hb3 hb4)
          have hgw : g < w4.heap.size := Nat.lt_of_lt_of_le hg (grows hb3 hb4).size
          have c2w := HC2.out _ (grows hb3 hb4)
          have HS4 := Lib.hid (HS.out.below (grows hb3 hb4))
          clear c0 c1 c2 hb3 hb4
          go_wp2_with fail
          go_loopw [3, 6] (fun acc i wr => ∃ m : Nat, m ≤ vs.length ∧ i = .int .i64 m ∧ acc = .string (H m) ∧ Below w4.heap.size w4 wr) (fun _ i _ => vs.length - (intOf i).toNat)
          case atStart => exact ⟨0, Nat.zero_le _, rfl, rfl, Below.refl _ _⟩
          case round =>
            obtain ⟨m, hm, rfl, rfl, hbq⟩ := hrel
            have c2r := (hbq.cell (p := ⟨g, o + j * 3 + 2, none⟩) hgw).trans c2w
            by_cases hml : m < vs.length
            · have hmlz : (m : Int) < (vs.length : Int) := by omega
              have hm0 : (0 : Int) ≤ (m : Int) := by omega
              obtain ⟨g2, o2, rfl, hg2, hcell2⟩ := (HS4.out.below hbq).cells hml
              obtain ⟨x, hx⟩ : ∃ x, vs[m]? = some x := ⟨_, List.getElem?_eq_getElem hml⟩
              have hc := hcell2 m x hx
              have HX := Lib.hid (HXS.out x (List.mem_of_getElem? hx))
              have hax := HA.out m x hx
              have hfs := HAH.out m
              have hfl : (str (flat x)).size ≤ 42 := by rw [str_len]; exact flat_small (H32.out x (List.mem_of_getElem? hx))
              obtain ⟨fx, hfx⟩ : ∃ f, f = str (flat x) := ⟨_, rfl⟩
              rw [← hfx] at HX hax hfl
              have hadd3 : ∀ w, Sem.run Tryd.prog (Op.stringOp .add (H m) fx) w = .ok (.string (H (m + 1))) w := fun w => by rw [← hax]; exact run_string_add_sum w (H m) fx (by omega)
              clear hx hcell2 hfx hax
              go_wp2_with fail
              with_reducible refine (HX.out _).mono ?_
              rintro e w5 ⟨rfl, hb5⟩
              go_wp2
              go_roundw
              case rel => exact ⟨m + 1, by omega, by go_num, rfl, grows hbq hb5⟩
              case measure => simp [intOf]; omega
            · obtain rfl : m = vs.length := by omega
              go_wp2
              go_roundw
              case rel => exact ⟨j + 1, by omega, by go_num, by rw [HHE.out], grows hbw hbq⟩
              case measure => simp [intOf]; omega
        | false =>
          simp only [if_neg (show ¬ (false = true) by simp), Int.add_zero] at hnn
          subst hnn
          go_wp2_with fail
          with_reducible refine (HK.out _).mono ?_
          rintro e w3 ⟨rfl, hb3⟩
          go_wp2_with fail
          with_reducible refine (HN.out _).mono ?_
          rintro e w4 ⟨rfl, hb4⟩
          have hbw := grows hbr (grows hb3 hb4)
          have hgw : g < w4.heap.size := Nat.lt_of_lt_of_le hg (grows hb3 hb4).size
          have c2w := HC2.out _ (grows hb3 hb4)
          have HS4 := Lib.hid (HS.out.below (grows hb3 hb4))
          clear c0 c1 c2 hb3 hb4
          go_wp2_with fail
          go_loopw [3, 6] (fun acc i wr => ∃ m : Nat, m ≤ vs.length ∧ i = .int .i64 m ∧ acc = .string (H m) ∧ Below w4.heap.size w4 wr) (fun _ i _ => vs.length - (intOf i).toNat)
          case atStart => exact ⟨0, Nat.zero_le _, rfl, rfl, Below.refl _ _⟩
          case round =>
            obtain ⟨m, hm, rfl, rfl, hbq⟩ := hrel
            have c2r := (hbq.cell (p := ⟨g, o + j * 3 + 2, none⟩) hgw).trans c2w
            by_cases hml : m < vs.length
            · have hmlz : (m : Int) < (vs.length : Int) := by omega
              have hm0 : (0 : Int) ≤ (m : Int) := by omega
              obtain ⟨g2, o2, rfl, hg2, hcell2⟩ := (HS4.out.below hbq).cells hml
              obtain ⟨x, hx⟩ : ∃ x, vs[m]? = some x := ⟨_, List.getElem?_eq_getElem hml⟩
              have hc := hcell2 m x hx
              have HX := Lib.hid (HXS.out x (List.mem_of_getElem? hx))
              have hax := HA.out m x hx
              have hfs := HAH.out m
              have hfl : (str (flat x)).size ≤ 42 := by rw [str_len]; exact flat_small (H32.out x (List.mem_of_getElem? hx))
              obtain ⟨fx, hfx⟩ : ∃ f, f = str (flat x) := ⟨_, rfl⟩
              rw [← hfx] at HX hax hfl
              have hadd3 : ∀ w, Sem.run Tryd.prog (Op.stringOp .add (H m) fx) w = .ok (.string (H (m + 1))) w := fun w => by rw [← hax]; exact run_string_add_sum w (H m) fx (by omega)
              clear hx hcell2 hfx hax
              go_wp2_with fail
              with_reducible refine (HX.out _).mono ?_
              rintro e w5 ⟨rfl, hb5⟩
              go_wp2
              go_roundw
              case rel => exact ⟨m + 1, by omega, by go_num, rfl, grows hbq hb5⟩
              case measure => simp [intOf]; omega
            · obtain rfl : m = vs.length := by omega
              go_wp2
              go_roundw
              case rel => exact ⟨j + 1, by omega, by go_num, by rw [HHE.out], grows hbw hbq⟩
              case measure => simp [intOf]; omega
      · obtain rfl : j = ls.length := by omega
        go_wp2
        go_ret
        exact ⟨rfl, grows hb' hbr⟩
end Go.Proofs.YtcgknkbigbbfdaaDoor.Sel

/- From what the row lists to what the walks ask: the package's own error is there. -/
namespace Go.Proofs.YtcgknkbigbbfdaaDoor.Sel
open Go.RowKit

theorem errNamed : Tryd.prog.globalNamed "demesne/sel.errWrong" = some 0 := by kernel_rfl
theorem errType : (Tryd.prog.globals[0]?).map (·.type) = some 88 := by kernel_rfl
theorem errIface : ∃ ms, Tryd.prog.underlying 88 = some (.interface ms) := ⟨_, Tryd.underlying88⟩
theorem err_of {x : String × DataW Unit} {nm : String} {d : DataW Unit} {r : List (String × DataW Unit)} {W : World} (h : laidMet Tryd.prog (x :: ("demesne/sel.errWrong", .iface nm d) :: r) W) : Err W := by
  obtain ⟨ps, ⟨g0, t0, cs0, f0, p0, q0, hg0, ht0, hv0, hd0, _, e0⟩, _, hrows⟩ := h.tail
  obtain rfl := Option.some.inj (errNamed.symm.trans hg0)
  obtain rfl := Option.some.inj (errType.symm.trans ht0)
  obtain ⟨ms, hi⟩ := errIface
  obtain ⟨f1, u, v, hcs, _⟩ := iface_of_trod hi hd0
  have hc := World.var?_cell hg0 hv0 0
  rw [← Array.getElem?_toList, hcs] at hc
  exact ⟨u, v, hc⟩
theorem err_met {x : String × DataW Unit} {nm : String} {d : DataW Unit} {r : List (String × DataW Unit)} {W : World} (hp : ((x :: ("demesne/sel.errWrong", DataW.iface nm d) :: r).all fun x => x.2.handleName?.isNone) = true) (h : laidMetH Tryd.prog (x :: ("demesne/sel.errWrong", .iface nm d) :: r) W) : Err W := by
  rw [MakeChecks.laidMetH_plain _ _ _ hp] at h
  exact err_of h
end Go.Proofs.YtcgknkbigbbfdaaDoor.Sel

/- An argument that is a slice of labels: what its cells hold. -/
namespace Go.Proofs.YtcgknkbigbbfdaaDoor.Label
open Go.ChangeShapes Go.WideShapes Go.ChangeAt Go.RowKit

def strOf : Value → ByteArray
  | .string s => s
  | _ => ⟨#[]⟩

theorem open_pairs {H : Type} {E : TypeId × Value → H} {P : Program} {t e : TypeId} {f0 f1 : Field} (ht : P.underlying t = some (.slice e)) (he : P.underlying e = some (.struct #[f0, f1])) (ce : P.cellsOf e = 2) (o0 : f0.offset = 0) (o1 : f1.offset = 1)
    (c0 : P.cellsOf f0.type = 1) (c1 : P.cellsOf f1.type = 1) (s0 : P.underlying f0.type = some .string) (s1 : P.underlying f1.type = some .string) (hby : P.bytesOf e = 32) {W : World} {base : Nat} {v : Value} {d : DataW H} {p : List MemPlace}
    {ts : List TypeId} {ds : List (DataW H)} (hsz : (DataW.weightsEach P ts ds).all (· ≤ reachBytes) = true) {j : Nat} (htj : ts[j]? = some t) (hdj : ds[j]? = some d)
    (hval : Value.okWide P W .any base t v) (h : DataW.Trod E P W 0 (fun _ => true) true t v d p) : ∃ ls : List Pr, Row W v ls ∧ ls.length ≤ 4398046511104 := by
  obtain ⟨a1, len, cap, rfl⟩ := okWide_slice ht hval
  obtain ⟨fuel, hf⟩ := h
  rcases Deep.open_slice_pairs ht he ce o0 o1 c0 c1 hf with ⟨hcs, _⟩ | ⟨a, len', cap', m, n, V0, V1, D0, D1, P0, P1, hcs, _, hl, hm, hmm, hx, hi⟩
  · simp [Value.cells] at hcs
    obtain ⟨rfl, rfl, rfl⟩ := hcs
    exact ⟨[], .inl ⟨rfl, _, _, rfl, Nat.zero_le _⟩, Nat.zero_le _⟩
  · simp [Value.cells] at hcs
    obtain ⟨rfl, rfl, rfl⟩ := hcs
    simp only [if_true] at hmm
    subst hmm
    simp only [Prod.mk.injEq] at hx
    have hlen : ((List.range len).map fun i => (strOf (V0 i), strOf (V1 i))).length = len := by simp
    refine ⟨(List.range len).map fun i => (strOf (V0 i), strOf (V1 i)), ?_, ?_⟩
    · by_cases hz : len = 0
      · subst hz
        exact .inl ⟨rfl, _, _, rfl, hm⟩
      · have hs : ∀ i, i < m → V0 i = .string (strOf (V0 i)) ∧ V1 i = .string (strOf (V1 i)) := fun i him => by
          obtain ⟨_, _, h3, h4⟩ := hi i him
          obtain ⟨x0, e0, _⟩ := DataW.trod_string s0 h3
          obtain ⟨x1, e1, _⟩ := DataW.trod_string s1 h4
          simp only [List.cons.injEq, and_true] at e0 e1
          rw [e0, e1]
          exact ⟨rfl, rfl⟩
        obtain ⟨ab, ao, spot⟩ := a
        have h0 := (hi 0 (by omega)).1
        have hspot : spot = none := by simpa [Addr.add] using World.cell?_spot h0
        subst hspot
        refine .inr ⟨fun hn => by rw [hn] at hlen; simp at hlen; omega, ab, ao, m, by rw [hlen], World.block_lt_of_cell? (a := ⟨ab, ao, none⟩) _ (by simpa [Addr.add] using h0), by rw [hlen]; exact hl, hm, fun k x hk => ?_⟩
        obtain ⟨hk1, rfl⟩ := List.getElem?_eq_some_iff.1 hk
        rw [hlen] at hk1
        obtain ⟨g0, g1, _, _⟩ := hi k (by omega)
        obtain ⟨q0, q1⟩ := hs k (by omega)
        rw [Addr.add_lit] at g0 g1
        simp only [List.getElem_map, List.getElem_range]
        rw [← q0, ← q1]
        exact ⟨g0, by rw [Nat.add_assoc]; exact g1⟩
    · rw [hlen]
      have := sized_slice hsz htj (hx.1 ▸ hdj) ht
      rw [hby] at this
      simp at this
      have hr : reachBytes < 2 ^ 47 := reachBytes_lt
      omega
end Go.Proofs.YtcgknkbigbbfdaaDoor.Label

/- An argument that is a slice of labels, by its bulk: what its cells hold, how many they are, how long each text is. -/
namespace Go.Proofs.YtcgknkbigbbfdaaDoor.Label
open Go.ChangeShapes Go.WideShapes Go.ChangeAt Go.RowKit

theorem bulk_mem {H : Type} {d : DataW H} : ∀ {l : List (DataW H)}, d ∈ l → Rows.uptoBulk d ≤ Rows.uptoBulkAll l
  | [], h => by cases h
  | x :: r, h => by
    simp only [Rows.uptoBulkAll]
    rcases List.mem_cons.1 h with rfl | h
    · omega
    · have := bulk_mem h; omega
theorem bulk_len {H : Type} {f : Nat → DataW H} (hf : ∀ i, 1 ≤ Rows.uptoBulk (f i)) : ∀ (l : List Nat), l.length ≤ Rows.uptoBulkAll (l.map f)
  | [] => by simp [Rows.uptoBulkAll]
  | x :: r => by
    have := bulk_len hf r
    have := hf x
    simp only [List.map_cons, Rows.uptoBulkAll, List.length_cons]
    omega

theorem open_pairs_upto {H : Type} {E : TypeId × Value → H} {P : Program} {t e : TypeId} {f0 f1 : Field} (ht : P.underlying t = some (.slice e)) (he : P.underlying e = some (.struct #[f0, f1])) (ce : P.cellsOf e = 2) (o0 : f0.offset = 0) (o1 : f1.offset = 1)
    (c0 : P.cellsOf f0.type = 1) (c1 : P.cellsOf f1.type = 1) (s0 : P.underlying f0.type = some .string) (s1 : P.underlying f1.type = some .string) {W : World} {base : Nat} {v : Value} {d : DataW H} {p : List MemPlace}
    (hval : Value.okWide P W .any base t v) (h : DataW.Trod E P W 0 (fun _ => true) true t v d p) :
    ∃ ls : List Pr, Row W v ls ∧ ls.length ≤ Rows.uptoBulk d ∧ ∀ x ∈ ls, x.1.size ≤ Rows.uptoBulk d ∧ x.2.size ≤ Rows.uptoBulk d := by
  obtain ⟨a1, len, cap, rfl⟩ := okWide_slice ht hval
  obtain ⟨fuel, hf⟩ := h
  rcases Deep.open_slice_pairs ht he ce o0 o1 c0 c1 hf with ⟨hcs, _⟩ | ⟨a, len', cap', m, n, V0, V1, D0, D1, P0, P1, hcs, _, hl, hm, hmm, hx, hi⟩
  · simp [Value.cells] at hcs
    obtain ⟨rfl, rfl, rfl⟩ := hcs
    exact ⟨[], .inl ⟨rfl, _, _, rfl, Nat.zero_le _⟩, Nat.zero_le _, fun x hx => by simp at hx⟩
  · simp [Value.cells] at hcs
    obtain ⟨rfl, rfl, rfl⟩ := hcs
    simp only [if_true] at hmm
    subst hmm
    simp only [Prod.mk.injEq] at hx
    have hlen : ((List.range len).map fun i => (strOf (V0 i), strOf (V1 i))).length = len := by simp
    have hs : ∀ i, i < m → (V0 i = .string (strOf (V0 i)) ∧ V1 i = .string (strOf (V1 i))) ∧ D0 i = .lit (.string (strOf (V0 i)).data.toList) ∧ D1 i = .lit (.string (strOf (V1 i)).data.toList) := fun i him => by
      obtain ⟨_, _, h3, h4⟩ := hi i him
      obtain ⟨x0, e0, g0, _⟩ := DataW.trod_string s0 h3
      obtain ⟨x1, e1, g1, _⟩ := DataW.trod_string s1 h4
      simp only [List.cons.injEq, and_true] at e0 e1
      simp only [Prod.mk.injEq] at g0 g1
      rw [e0, e1, g0.1, g1.1]
      exact ⟨⟨rfl, rfl⟩, rfl, rfl⟩
    have hd := hx.1
    refine ⟨(List.range len).map fun i => (strOf (V0 i), strOf (V1 i)), ?_, ?_, ?_⟩
    · by_cases hz : len = 0
      · subst hz
        exact .inl ⟨rfl, _, _, rfl, hm⟩
      · obtain ⟨ab, ao, spot⟩ := a
        have h0 := (hi 0 (by omega)).1
        have hspot : spot = none := by simpa [Addr.add] using World.cell?_spot h0
        subst hspot
        refine .inr ⟨fun hn => by rw [hn] at hlen; simp at hlen; omega, ab, ao, m, by rw [hlen], World.block_lt_of_cell? (a := ⟨ab, ao, none⟩) _ (by simpa [Addr.add] using h0), by rw [hlen]; exact hl, hm, fun k x hk => ?_⟩
        obtain ⟨hk1, rfl⟩ := List.getElem?_eq_some_iff.1 hk
        rw [hlen] at hk1
        obtain ⟨g0, g1, _, _⟩ := hi k (by omega)
        obtain ⟨⟨q0, q1⟩, _⟩ := hs k (by omega)
        rw [Addr.add_lit] at g0 g1
        simp only [List.getElem_map, List.getElem_range]
        rw [← q0, ← q1]
        exact ⟨g0, by rw [Nat.add_assoc]; exact g1⟩
    · rw [hlen, hd]
      have := bulk_len (f := fun i => DataW.agg [D0 i, D1 i]) (fun i => by simp [Rows.uptoBulk]) (List.range len)
      rw [List.length_range] at this
      simp only [Rows.uptoBulk]
      omega
    · intro x hx'
      obtain ⟨i, hir, rfl⟩ := List.mem_map.1 hx'
      have hil := List.mem_range.1 hir
      obtain ⟨_, e0, e1⟩ := hs i (by omega)
      have hb := bulk_mem (d := DataW.agg [D0 i, D1 i]) (l := (List.range len).map fun i => DataW.agg [D0 i, D1 i]) (List.mem_map.2 ⟨i, hir, rfl⟩)
      rw [e0, e1] at hb
      simp only [Rows.uptoBulk, Rows.uptoBulkAll] at hb
      rw [hd]
      simp only [Rows.uptoBulk]
      have z0 : (strOf (V0 i)).data.toList.length = (strOf (V0 i)).size := Array.length_toList
      have z1 : (strOf (V1 i)).data.toList.length = (strOf (V1 i)).size := Array.length_toList
      constructor
      · show (strOf (V0 i)).size ≤ _; omega
      · show (strOf (V1 i)).size ≤ _; omega
end Go.Proofs.YtcgknkbigbbfdaaDoor.Label

/- The wrap for a row whose specification bears a condition of its own and that lists variables with their content; of no program. -/
namespace Go.Proofs.YtcgknkbigbbfdaaDoor.Upto
open Go
variable {H : Type} {enc : TypeId × Value → H}

theorem handed {a : Assume} {C : Checked} {os : Os} {f : FuncId} {fn : Func} {s : OpenSpec} {k : (H : Type) → List (DataW H) → Bool} (hk : s.cond = some k) {F : Stop.Interp} {conds : List PathCond} {apart fresh handsOn again : Bool} {X : World → Prop}
    (hX : ∀ w w' : World, w.heap = w'.heap → X w → X w')
    (own : ownKnob C.prog.godebug = none) (started : os.Started) (noInit : C.prog.inits.idxOf? f = none) (hfn : C.prog.funcs[f]? = some fn)
    (witness : ∃ (w : World) (tape : Tape) (i : Input), w.os = os ∧ (w.forCall tape i).Shaped C.prog ∧ i.vars = [] ∧ Input.okWide C.prog (w.forCall tape i) .any w.heap.size f i ∧
      ((s.pre enc C.prog fn conds apart (w.forCall tape i).memory i.args ∧ X (w.forCall tape i).memory) ∧ sizedMet enc C.prog fn s apart (w.forCall tape i).memory i.args) ∧ a.holds C.prog (lone (Frame.enter C.prog f i.args .normal) [] (w.forCall tape i)))
    (contract : ∀ (W : World) (base : Nat) (args : Array Value) (ds gs : List (DataW H)) (before : List MemPlace),
      (∀ (j : Nat) t v, fn.params[j]? = some t → args[j]? = some v → Value.okWide C.prog W .any base t v) →
      DataW.Whole enc C.prog fn.params.toList s.vars apart W args.toList ds gs before →
      k H (ds ++ gs) = true → X W →
      Calls C.prog f args W fun e W' => ∃ v, e = .returned v ∧ (s.at F).post enc C.prog fn apart fresh handsOn again W args v W') :
    ReturnsInHanded a C os f .any (fun w args => (s.pre enc C.prog fn conds apart w args ∧ X w) ∧ sizedMet enc C.prog fn s apart w args) ((s.at F).post enc C.prog fn apart fresh handsOn again) := by
  refine returnsInHanded_of_calls own started noInit witness ?_
  intro w tape i _ _ _ hok hpre _
  obtain ⟨_, _, _, fn', hfn', _, _, _, _, hval⟩ := hok
  have e : fn' = fn := Option.some.inj (hfn'.symm.trans hfn)
  subst e
  obtain ⟨ds, gs, before, hw, _, hkk⟩ := (OpenSpec.pre_some hk conds apart _ _).1 hpre.1.1
  have hw' := DataW.Whole.of_heap (w' := w.forCall tape i) (by rfl) hw
  refine (contract (w.forCall tape i) w.heap.size i.args ds gs before hval hw' hkk (hX _ _ (by rfl) hpre.1.2)).mono fun e W' ⟨v, he, hp⟩ => ?_
  subst he
  exact ChangeSpec.post_blind hp

theorem witness {C : Checked} {os : Os} {f : FuncId} {fn : Func} {s : OpenSpec} {k : (H : Type) → List (DataW H) → Bool} (hk : s.cond = some k) {conds : List PathCond} {apart : Bool} {X : World → Prop} (modest : Bool) (w0 : World) (args : Array Value) (fuel : Nat) (hos : w0.os = os)
    (hsh : (w0.forCall (fun _ _ => 0) ⟨#[], args, []⟩).Shaped C.prog)
    (hok : Input.okWideB C.prog (w0.forCall (fun _ _ => 0) ⟨#[], args, []⟩) f ⟨#[], args, []⟩ = true)
    {x : List (DataW H) × List (DataW H) × List MemPlace} (hx : DataW.whole enc C.prog (w0.forCall (fun _ _ => 0) ⟨#[], args, []⟩).memory fn.params.toList s.vars apart args.toList fuel = some x)
    (hconds : conds.all (PathCond.test C.prog ⟨fn.params.toList, x.1, s.bare.plain.varTypes C.prog, x.2.1⟩) = true) (hkk : k H (x.1 ++ x.2.1) = true)
    (hsz : s.bare.sizedB enc C.prog fn apart (w0.forCall (fun _ _ => 0) ⟨#[], args, []⟩).memory args fuel = true)
    (hX : X (w0.forCall (fun _ _ => 0) ⟨#[], args, []⟩).memory) :
    ∃ (w : World) (tape : Tape) (i : Input), w.os = os ∧ (w.forCall tape i).Shaped C.prog ∧ i.vars = [] ∧ Input.okWide C.prog (w.forCall tape i) .any w.heap.size f i ∧
      ((s.pre enc C.prog fn conds apart (w.forCall tape i).memory i.args ∧ X (w.forCall tape i).memory) ∧ sizedMet enc C.prog fn s apart (w.forCall tape i).memory i.args) ∧ ({ modest := modest } : Assume).holds C.prog (lone (Frame.enter C.prog f i.args .normal) [] (w.forCall tape i)) :=
  ⟨w0, fun _ _ => 0, ⟨#[], args, []⟩, hos, hsh, (Input.okWide_of_okWideB (base := 0) hok).1, (Input.okWide_of_okWideB hok).2, ⟨⟨(OpenSpec.pre_some hk conds apart _ _).2 ⟨x.1, x.2.1, x.2.2, DataW.Whole_of_whole hx, hconds, hkk⟩, hX⟩, sizedMet_of_sizedB hsz⟩, by
    simp only [Assume.holds]
    exact ⟨by simp, by simp, fun _ => Modest.zero, by simp, by simp⟩⟩
end Go.Proofs.YtcgknkbigbbfdaaDoor.Upto

/- The last step of every law here: a call that answers true, and behind which all that was there is as it was, meets the law's row. -/
namespace Go.Proofs.YtcgknkbigbbfdaaDoor.Ends
open Go.ChangeShapes Go.WideShapes Go.ChangeAt Go.RowKit

theorem own : ownKnob Tryd.prog.godebug = none := by kernel_rfl
theorem laidOut : laidOutB Tryd.prog = true := by kernel_rfl

variable {H : Type} {enc : TypeId × Value → H} {P : Program}

/-- What was read before the call is read behind it, argument by argument. -/
theorem args_stay (hl : laidOutB P = true) {W W' : World} (hb : Below W.heap.size W W') :
    ∀ (ts : List TypeId) (vs : List Value) (ds : List (DataW H)) (ps : List MemPlace), (∀ t ∈ ts, P.readableRec t = true ∧ t < P.types.size) → (∀ x ∈ ps, x.block < W.heap.size) →
      DataW.TrodAll enc P W 0 (fun _ => true) true ts vs ds ps → DataW.TrodAll enc P W' 0 (fun b => decide (b < W.heap.size)) true ts vs ds ps
  | [], [], [], _, _, _, h => h
  | t :: ts, v :: vs, d :: ds, ps, hr, hlt, h => by
    obtain ⟨p, q, h1, h2, rfl⟩ := h
    have ht := hr t (List.mem_cons_self ..)
    exact ⟨p, q, Below.trod hl ht.1 ht.2 h1 hb fun x hx => hlt x (List.mem_append_left _ hx),
      args_stay hl hb ts vs ds q (fun u hu => hr u (List.mem_cons_of_mem _ hu)) (fun x hx => hlt x (List.mem_append_right _ hx)) h2, rfl⟩
  | [], _ :: _, _, _, _, _, h => h.elim
  | [], [], _ :: _, _, _, _, h => h.elim
  | _ :: _, [], _, _, _, _, h => h.elim
  | _ :: _, _ :: _, [], _, _, _, h => h.elim

/-- A law's row at its end. -/
theorem law_end {f : Func} {s : ChangeSpec} {W W' : World} {args : Array Value} {ds gs : List (DataW H)} {before : List MemPlace} {t : TypeId}
    (hl : laidOutB P = true) (hr : ∀ t ∈ f.params.toList, P.readableRec t = true ∧ t < P.types.size) (hs : s.vars = []) (hf : f.resultTypes = #[t]) (ht : P.underlying t = some .bool)
    (hW : DataW.Whole enc P f.params.toList s.vars false W args.toList ds gs before) (hfn : s.fn H (ds ++ gs) = { results := [.lit (.bool true)], args := ds }) (hb : Below W.heap.size W W') :
    s.post enc P f false true false false W args (.bool true) W' := by
  have hW0 := hW
  have hlt : ∀ x ∈ before, x.block < W.heap.size := fun x hx => hW0.lt x hx
  obtain ⟨p, q, hA, hV, rfl, _, _⟩ := hW
  rw [hs] at hV
  obtain ⟨rfl, rfl⟩ := trodVars_none hV
  rw [List.append_nil] at hW0 hlt
  refine ⟨ds, [], p, [], p, [], hW0, ?_, ?_, ?_, ?_, fun h => by cases h⟩
  · rw [hfn, hf]
    exact trodAll_cons_mk (shut_bool ht true) trodAll_mk0
  · rw [hfn]
    exact args_stay hl hb _ _ _ _ hr hlt hA
  · rw [hfn, hs]
    rfl
  · exact World.keptBut_mono (fun x hx => ⟨hx, Or.inr (Or.inl hx)⟩) (hb.frame (· ∈ p))
end Go.Proofs.YtcgknkbigbbfdaaDoor.Ends
