/- What frame.Sum answers of any text: CRC-32 by plain numbers; nothing is turned in memory. -/
import Derived.Test.YtlifobfbaiabgaaProg
import Derived.Test.YtlifobfbaiabgaaFForm
import Derived.WalkKit
import Derived.WalkSpells
import Derived.Lib.Hide
namespace Go.Proofs.Ytlifobfbaiabgaa.Frame
open Go.RowKit

theorem size_list (s : ByteArray) : s.data.toList.length = s.size := by rw [Array.length_toList]; rfl
theorem take_snoc (s : ByteArray) (k : Nat) (h : k < s.size) : s.data.toList.take (k + 1) = s.data.toList.take k ++ [s[k]] := by
  rw [List.take_succ_eq_append_getElem (by simpa using h)]; rfl
theorem stn_succ : ∀ (n r : Nat), stn (n + 1) r = st (stn n r)
  | 0, _ => rfl
  | n + 1, r => by rw [stn, stn_succ n, stn]
theorem run_snoc (r : Nat) (l : List UInt8) (b : UInt8) : run r (l ++ [b]) = absorb (run r l) b := by rw [run_append, run_cons, run_nil]
theorem xor_byte (r : Nat) (b : UInt8) (h : r < 4294967296) : bits .xor .u32 (r : Int) ((b.toNat : Int) % 4294967296) = ((r ^^^ b.toNat : Nat) : Int) := by
  have := byte_lt b
  rw [show (b.toNat : Int) % 4294967296 = (b.toNat : Int) by omega]
  exact u32_xor_nat _ _ h this
theorem half_lt {r : Nat} (h : r < 4294967296) : r / 2 < 4294967296 := by omega
/-- The program's step of one bit: without an 'if'. -/
theorem step_int (r : Nat) (h : r < 4294967296) : bits .xor .u32 ((r : Int) / 2) (3988292384 * ((r : Int) % 2)) = ((st r : Nat) : Int) := by
  rw [show (r : Int) / 2 = ((r / 2 : Nat) : Int) by omega, show 3988292384 * ((r : Int) % 2) = ((3988292384 * (r % 2) : Nat) : Int) by omega]
  rw [u32_xor_nat _ _ (half_lt h) (by omega)]
  unfold st
  by_cases ho : r % 2 = 1
  · rw [if_pos ho, ho]
  · rw [if_neg ho, show r % 2 = 0 by omega]
theorem and_one (r : Nat) (h : r < 4294967296) : bits .and .u32 (r : Int) 1 = ((r % 2 : Nat) : Int) := by
  rw [show (1 : Int) = ((1 : Nat) : Int) from rfl, u32_and_nat _ _ h (by omega), nat_mask1]
theorem not_int (r : Nat) (h : r < 4294967296) : bits .xor .u32 IntKind.u32.max (r : Int) = ((r ^^^ 4294967295 : Nat) : Int) := by
  rw [show IntKind.u32.max = ((4294967295 : Nat) : Int) from rfl, u32_xor_nat _ _ (by omega) h, Nat.xor_comm]

set_option maxHeartbeats 1000000 in
theorem sum_any (s : ByteArray) (hs : s.size ≤ 9223372036854775807) (w : World) :
    Calls Try.prog 16 #[.string s] w fun e w' => e = .returned (.int .u32 (crcL s.data.toList : Nat)) ∧ w = w' := by
  go_enter Try.func16, Try.ntmps16
  go_wp2
  go_loopw [3, 7] (fun v i wr => ∃ k r : Nat, k ≤ s.size ∧ i = .int .i64 k ∧ v = .int .u32 (r : Nat) ∧ r = run 4294967295 (s.data.toList.take k) ∧ w = wr) (fun _ i _ => s.size - (intOf i).toNat)
  case atStart => exact ⟨0, 4294967295, Nat.zero_le _, rfl, rfl, rfl, rfl⟩
  case round =>
    obtain ⟨k, r, hk, rfl, rfl, hr, rfl⟩ := hrel
    have hlr : r < 4294967296 := by rw [hr]; exact run_lt _ (by omega)
    have HR := Lib.hid hr
    clear hr
    by_cases hlt : k < s.size
    · have hltz : (k : Int) < (s.size : Int) := by omega
      have HT := Lib.hid (take_snoc s k hlt)
      obtain ⟨d, hd⟩ : ∃ d, s[k] = d := ⟨_, rfl⟩
      rw [hd] at HT
      have hx := xor_byte r d hlr
      obtain ⟨q, hq⟩ : ∃ q, r ^^^ d.toNat = q := ⟨_, rfl⟩
      rw [hq] at hx
      have hlq : q < 4294967296 := by rw [← hq]; exact xor_lt hlr (byte_lt d)
      have HQ : Hid (run 4294967295 (s.data.toList.take (k + 1)) = stn 8 q) := Lib.hid (by rw [HT.out, run_snoc, ← HR.out, ← hq]; rfl)
      clear hq
      go_wp2
      clear hx
      go_loopw [3, 16] (fun v i wr => ∃ m p : Nat, m ≤ 8 ∧ i = .int .i64 m ∧ v = .int .u32 (p : Nat) ∧ p = stn m q ∧ w = wr) (fun _ i _ => 8 - (intOf i).toNat)
      case atStart => exact ⟨0, q, Nat.zero_le _, rfl, rfl, rfl, rfl⟩
      case round =>
        obtain ⟨m, p, hm, rfl, rfl, hp, rfl⟩ := hrel
        have hlp : p < 4294967296 := by rw [hp]; exact stn_lt _ hlq
        have HP := Lib.hid hp
        clear hp
        by_cases hlm : m < 8
        · have hlmz : (m : Int) < 8 := by omega
          have h1 := and_one p hlp
          have h2 := step_int p hlp
          have HN : Hid (stn (m + 1) q = st p) := Lib.hid (by rw [stn_succ, ← HP.out])
          obtain ⟨y, hy⟩ : ∃ y, st p = y := ⟨_, rfl⟩
          rw [hy] at h2 HN
          clear hy
          go_wp2
          go_roundw
          case rel => exact ⟨m + 1, y, by omega, by go_num, by go_num, HN.out.symm, trivial⟩
          case measure => simp [intOf]; omega
        · obtain rfl : m = 8 := by omega
          go_wp2
          go_roundw
          case rel => exact ⟨k + 1, p, by omega, by go_num, by go_num, by rw [HQ.out]; exact HP.out, trivial⟩
          case measure => simp [intOf]; omega
    · obtain rfl : k = s.size := by omega
      have hn := not_int r hlr
      rw [List.take_of_length_le (by rw [size_list]; omega)] at HR
      have HC : Hid (r ^^^ 4294967295 = crcL s.data.toList) := Lib.hid (by rw [HR.out]; rfl)
      obtain ⟨y, hy⟩ : ∃ y, r ^^^ 4294967295 = y := ⟨_, rfl⟩
      rw [hy] at hn HC
      go_wp2
      go_ret
      exact ⟨by rw [HC.out]; rfl, rfl⟩
end Go.Proofs.Ytlifobfbaiabgaa.Frame
