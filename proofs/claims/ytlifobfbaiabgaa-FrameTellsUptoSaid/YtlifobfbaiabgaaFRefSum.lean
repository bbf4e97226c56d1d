/- What the document's own Sum and Put answer: CRC-32 bit by bit, the same plain numbers; of memory that was there nothing turns. -/
import Derived.Test.YtlifobfbaiabgaaFNum
namespace Go.Proofs.Ytlifobfbaiabgaa.Frame
open Go.RowKit

/-- The register behind so many bits of a byte, where the byte is not laid over it. -/
def refK (r b k : Nat) : Nat := stn k (r ^^^ b) ^^^ b / 2 ^ k
theorem refK_zero (r b : Nat) : refK r b 0 = r := by
  unfold refK
  rw [stn, Nat.pow_zero, Nat.div_one, Nat.xor_assoc, Nat.xor_self, Nat.xor_zero]
theorem refK_eight (r : Nat) (b : UInt8) : refK r b.toNat 8 = absorb r b := by
  have := b.toNat_lt
  unfold refK absorb
  rw [Nat.div_eq_of_lt (by omega), Nat.xor_zero]
theorem refK_lt {r b : Nat} (hr : r < 4294967296) (hb : b < 256) (k : Nat) : refK r b k < 4294967296 :=
  xor_lt (stn_lt _ (xor_lt hr (by omega))) (Nat.lt_of_le_of_lt (Nat.div_le_self _ _) (by omega))
theorem odd_same (x z : Nat) : ((x ^^^ z) % 2 = z % 2) ↔ ¬ x % 2 = 1 := by
  have h := odd_xor x z
  rcases Nat.mod_two_eq_zero_or_one x with hx | hx <;> rcases Nat.mod_two_eq_zero_or_one z with hz | hz <;> rcases Nat.mod_two_eq_zero_or_one (x ^^^ z) with hq | hq <;> simp [hx, hz, hq] at h ⊢
theorem refK_odd (r b k : Nat) : (refK r b k % 2 = b / 2 ^ k % 2) ↔ ¬ stn k (r ^^^ b) % 2 = 1 := odd_same _ _
theorem refK_half (r b k : Nat) : refK r b k / 2 = stn k (r ^^^ b) / 2 ^^^ b / 2 ^ (k + 1) := by
  unfold refK
  rw [half_xor, Nat.pow_succ, Nat.div_div_eq_div_mul]
theorem refK_next (r b k : Nat) : refK r b (k + 1) = refK r b k / 2 ^^^ (if refK r b k % 2 = b / 2 ^ k % 2 then 0 else 3988292384) := by
  have h := refK_odd r b k
  have e : refK r b (k + 1) = st (stn k (r ^^^ b)) ^^^ b / 2 ^ (k + 1) := by unfold refK; rw [stn_succ]
  rw [e, refK_half]
  unfold st
  by_cases ho : stn k (r ^^^ b) % 2 = 1
  · rw [if_pos ho, if_neg (fun hh => (h.1 hh) ho)]
    generalize stn k (r ^^^ b) / 2 = x
    generalize b / 2 ^ (k + 1) = y
    rw [Nat.xor_assoc, Nat.xor_comm 3988292384 y, ← Nat.xor_assoc]
  · rw [if_neg ho, if_pos (h.2 ho), Nat.xor_zero, Nat.xor_zero]
theorem refK_yes {r b k : Nat} (hr : r < 4294967296) (hb : b < 256) (h : ¬ refK r b k % 2 = b / 2 ^ k % 2) : bits .xor .u32 (((refK r b k : Nat) : Int) / 2) 3988292384 = ((refK r b (k + 1) : Nat) : Int) := by
  rw [refK_next, if_neg h]
  have hl := refK_lt hr hb k
  have := u32_xor_nat (refK r b k / 2) 3988292384 (by omega) (by omega)
  rw [Int.natCast_ediv] at this
  exact this

set_option maxHeartbeats 1000000 in
theorem refSum_any (s : ByteArray) (hs : s.size ≤ 9223372036854775807) (w : World) :
    Calls Try.prog 17 #[.string s] w fun e w' => e = .returned (.int .u32 (crcL s.data.toList : Nat)) ∧ w = w' := by
  go_enter Try.func17, Try.ntmps17
  go_wp2
  go_loopw [3, 4] (fun v i wr => ∃ k r : Nat, k ≤ s.size ∧ i = .int .i64 k ∧ v = .int .u32 (r : Nat) ∧ r = run 4294967295 (s.data.toList.take k) ∧ w = wr) (fun _ i _ => s.size - (intOf i).toNat)
  case atStart => exact ⟨0, 4294967295, Nat.zero_le _, rfl, rfl, rfl, rfl⟩
  case round =>
    obtain ⟨k, r, hk, rfl, rfl, hr, rfl⟩ := hrel
    have hlr : r < 4294967296 := by rw [hr]; exact run_lt _ (by omega)
    have HR := Lib.hid hr
    clear hr
    by_cases hlt : k < s.size
    · have hltz : (k : Int) < (s.size : Int) := by omega
      have HT := Lib.hid (take_snoc s k hlt)
      obtain ⟨d, hd⟩ : ∃ d, s[k] = d := ⟨_, rfl⟩
      rw [hd] at HT
      have hdb := d.toNat_lt
      have HQ : Hid (run 4294967295 (s.data.toList.take (k + 1)) = refK r d.toNat 8) := Lib.hid (by rw [HT.out, run_snoc, ← HR.out, refK_eight])
      go_wp2
      go_loopw [3, 5] (fun v i wr => ∃ m p : Nat, m ≤ 8 ∧ i = .int .i64 m ∧ v = .int .u32 (p : Nat) ∧ p = refK r d.toNat m ∧ w = wr) (fun _ i _ => 8 - (intOf i).toNat)
      case atStart => exact ⟨0, r, Nat.zero_le _, rfl, rfl, (refK_zero _ _).symm, rfl⟩
      case round =>
        obtain ⟨m, p, hm, rfl, rfl, hp, rfl⟩ := hrel
        have hlp : p < 4294967296 := by rw [hp]; exact refK_lt hlr (by omega) _
        have HP := Lib.hid hp
        clear hp
        by_cases hlm : m < 8
        · have hlmz : (m : Int) < 8 := by omega
          have hm0 : (0 : Int) ≤ (m : Int) := by omega
          have hdd : (d.toNat : Int) / 2 ^ m = ((d.toNat / 2 ^ m : Nat) : Int) := by rw [Int.natCast_ediv, Int.natCast_pow]; rfl
          have hx : Hid (¬ refK r d.toNat m % 2 = d.toNat / 2 ^ m % 2 → bits .xor .u32 ((p : Int) / 2) 3988292384 = ((refK r d.toNat (m + 1) : Nat) : Int)) := Lib.hid fun h => by rw [HP.out]; exact refK_yes hlr (by omega) h
          have hx2 : Hid (refK r d.toNat m % 2 = d.toNat / 2 ^ m % 2 → p / 2 = refK r d.toNat (m + 1)) := Lib.hid fun h => by rw [refK_next, if_pos h, Nat.xor_zero, HP.out]
          rw [← HP.out] at hx hx2
          obtain ⟨z, hz⟩ : ∃ z, d.toNat / 2 ^ m = z := ⟨_, rfl⟩
          rw [hz] at hdd hx hx2
          have hzl : z < 256 := by rw [← hz]; exact Nat.lt_of_le_of_lt (Nat.div_le_self _ _) hdb
          clear hz
          obtain ⟨y, hy⟩ : ∃ y, refK r d.toNat (m + 1) = y := ⟨_, rfl⟩
          rw [hy] at hx hx2
          have HY := Lib.hid hy
          clear hy
          by_cases ho : p % 2 = z % 2
          · have h1 : ((p : Int) % 2 != (z : Int) % 2) = false := by rw [bne_eq_false_iff_eq]; omega
            have h2 : (p : Int) % 2 = (z : Int) % 2 := by omega
            have h3 := hx2.out ho
            go_wp2
            go_roundw
            case rel => exact ⟨m + 1, p / 2, by omega, by go_num, by go_num, by rw [h3]; exact HY.out.symm, trivial⟩
            case measure => simp [intOf]; omega
          · have h1 : ((p : Int) % 2 != (z : Int) % 2) = true := by rw [bne_iff_ne]; omega
            have h2 : ¬ (p : Int) % 2 = (z : Int) % 2 := by omega
            have h3 := hx.out ho
            go_wp2
            go_roundw
            case rel => exact ⟨m + 1, y, by omega, by go_num, by go_num, HY.out.symm, trivial⟩
            case measure => simp [intOf]; omega
        · obtain rfl : m = 8 := by omega
          go_wp2
          go_roundw
          case rel => exact ⟨k + 1, p, by omega, by go_num, by go_num, by rw [HQ.out]; exact HP.out, trivial⟩
          case measure => simp [intOf]; omega
    · obtain rfl : k = s.size := by omega
      have hn := not_int r hlr
      rw [List.take_of_length_le (by rw [size_list]; omega)] at HR
      have HC : Hid (r ^^^ 4294967295 = crcL s.data.toList) := Lib.hid (by rw [HR.out]; rfl)
      obtain ⟨y, hy⟩ : ∃ y, r ^^^ 4294967295 = y := ⟨_, rfl⟩
      rw [hy] at hn HC
      go_wp2
      go_ret
      exact ⟨by rw [HC.out]; rfl, rfl⟩
end Go.Proofs.Ytlifobfbaiabgaa.Frame
