/- What the document's own Put and PutText answer: the digits of the number, and of the length ahead of the text; of memory that was there nothing turns. -/
import Derived.Test.YtbilkeadhflibaaGreatDoorJL4
namespace Go.Proofs.YtbilkeadhflibaaGreatDoor.Wire
open Go.RowKit

set_option maxRecDepth 100000 in
theorem conv_one (w : World) (c : UInt8) :
    (convert 56 9 (.slice (some ⟨w.heap.size, 0, none⟩) 1 1)).run Tryz.prog (w.alloc (.cells #[.int .u8 (c.toNat : Int)] 5)) = .ok (.string (str [c])) (w.alloc (.cells #[.int .u8 (c.toNat : Int)] 5)) := by
  have := run_convert_bytes_arg (P := Tryz.prog) (w.alloc (.cells #[.int .u8 (c.toNat : Int)] 5)) 56 5 Tryz.underlying56 Tryz.underlying5 w.heap.size 0 1 1 [(c.toNat : Int)] rfl (fun i hi => by
    obtain rfl : i = 0 := by omega
    simp [go_sem]) 9 Tryz.underlying9
  rw [this]
  congr 2
  simp [strOfNums, str]
theorem conv_lo (n : Nat) (h : n < 128) (w : World) :
    (convert 56 9 (.slice (some ⟨w.heap.size, 0, none⟩) 1 1)).run Tryz.prog (w.alloc (.cells #[.int .u8 (n : Int)] 5)) = .ok (.string (str (putL n))) (w.alloc (.cells #[.int .u8 (n : Int)] 5)) := by
  have := conv_one w (UInt8.ofNat n)
  rw [byte_lo h, ← putL_lt h] at this
  exact this
theorem str_append (a b : List UInt8) : str a ++ str b = str (a ++ b) := by
  apply ByteArray.ext
  rw [ByteArray.data_append]
  simp [str]
theorem or_mod (n : Nat) : bits .or .u8 ((n : Int) % 128) 128 = ((UInt8.ofNat (n % 128 + 128)).toNat : Int) := by
  rw [u8_or128_right _ (by omega) (by omega), byte_hi]
  omega

set_option maxRecDepth 100000 in
set_option maxHeartbeats 1000000 in
theorem refPut_any (U : Nat) (hU : U < 18446744073709551616) (w : World) :
    Calls Tryz.prog 55 #[.int .u64 U] w fun e w' => e = .returned (.string (str (putL U))) ∧ Below w.heap.size w w' := by
  have hten := putL_ten hU
  go_enter Tryz.func55, Tryz.ntmps55
  go_wp2
  go_loopw [0, 3] (fun u v wr => ∃ (n : Nat) (xs : List UInt8), n < 18446744073709551616 ∧ u = .int .u64 n ∧ v = .string (str xs) ∧ putL U = xs ++ putL n ∧ Below w.heap.size w wr)
    (fun u _ _ => (intOf u).toNat)
  case atStart => exact ⟨U, [], hU, rfl, rfl, rfl, Below.refl _ _⟩
  case round =>
    obtain ⟨n, xs, hn, rfl, rfl, hput, hb⟩ := hrel
    have HP := Lib.hid hput
    have hlen : xs.length + 1 ≤ 10 := by have := congrArg List.length hput; have := putL_pos n; simp at *; omega
    clear hput
    have hxs : (str xs).size ≤ 10 := by rw [str_size]; omega
    by_cases h128 : n < 128
    · have hconv := conv_lo n h128 wr
      have hsz : (str (putL n)).size ≤ 10 := by rw [str_size, putL_lt h128]; simp
      go_wp2
      go_ret
      exact ⟨by rw [str_append, ← HP.out]; rfl, hb.alloc hb.size _⟩
    · have hbits := or_mod n
      obtain ⟨c, hc⟩ : ∃ c, c = UInt8.ofNat (n % 128 + 128) := ⟨_, rfl⟩
      rw [← hc] at hbits
      have HC := Lib.hid hc
      clear hc
      have hconv := conv_one wr c
      have hsz : (str [c]).size ≤ 10 := by rw [str_size]; simp
      go_wp2
      go_roundw
      case rel => exact ⟨n / 128, xs ++ [c], by omega, by go_num, by rw [str_append], by rw [HP.out, putL_ge (by omega), ← HC.out]; simp, hb.alloc hb.size _⟩
      case measure => simp [intOf]; omega

set_option maxRecDepth 100000 in
set_option maxHeartbeats 1000000 in
theorem refPutText_any (t : ByteArray) (ht : t.size ≤ 4611686018427387904) (w : World) :
    Calls Tryz.prog 53 #[.string t] w fun e w' => e = .returned (.string (str (putL t.size) ++ t)) ∧ Below w.heap.size w w' := by
  have hten := putL_ten (u := t.size) (by omega)
  have hsz := str_size (putL t.size)
  have HP := Lib.hid (refPut_any t.size (by omega))
  obtain ⟨q, hq⟩ : ∃ q, q = str (putL t.size) := ⟨_, rfl⟩
  rw [← hq] at HP hsz ⊢
  have hq' : q.size ≤ 10 := by omega
  clear hsz hten hq
  go_enter Tryz.func53, Tryz.ntmps53
  go_wp2_with (go_at_call 55; refine (HP.out _).mono ?_; rintro e w1 ⟨rfl, hb⟩)
  go_ret
  exact ⟨rfl, hb⟩
end Go.Proofs.YtbilkeadhflibaaGreatDoor.Wire
