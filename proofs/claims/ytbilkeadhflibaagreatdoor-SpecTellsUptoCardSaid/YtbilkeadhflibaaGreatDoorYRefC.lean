/- What the document's own Digits answers (chapter 3): the digits of the number; of memory that was there nothing turns. -/
import Derived.Test.YtbilkeadhflibaaGreatDoorYRefB
namespace Go.Proofs.YtbilkeadhflibaaGreatDoor.Job
open Go.RowKit Go.Proofs.YtbilkeadhflibaaGreatDoor.Wire Go.Proofs.YtbilkeadhflibaaGreatDoor.Vec Go.Proofs.YtbilkeadhflibaaGreatDoor.Sel

theorem dec_more {n : Nat} (h : ¬ n < 10) : Lib.decDigits n = Lib.decDigits (n / 10) ++ [UInt8.ofNat (48 + n % 10)] := by
  rw [Lib.decDigits, dif_neg h]
theorem dig_nat {r : Nat} (h : r < 10) : (UInt8.ofNat (48 + r)).toNat = 48 + r := by
  rw [UInt8.toNat_ofNat']
  omega
set_option maxHeartbeats 2000000 in
set_option maxRecDepth 100000 in
theorem refDigits_any (U : Nat) (hU : U < 18446744073709551616) (w : World) :
    Calls Tryz.prog 84 #[.int .u64 U] w fun e w' => e = .returned (.string (dec U)) ∧ Below w.heap.size w w' := by
  have h20 := (dec_size hU).2
  unfold dec at h20 ⊢
  rw [size_str] at h20
  go_enter Tryz.func84, Tryz.ntmps84
  go_wp2
  go_loopw [0, 3] (fun u v wr => ∃ (n : Nat) (xs : List UInt8), n < 18446744073709551616 ∧ u = .int .u64 n ∧ v = .string (str xs) ∧ Lib.decDigits U = Lib.decDigits n ++ xs ∧ Below w.heap.size w wr)
    (fun u _ _ => (intOf u).toNat)
  case atStart => exact ⟨U, [], hU, rfl, rfl, by simp, Below.refl _ _⟩
  case round =>
    obtain ⟨n, xs, hn, rfl, rfl, hput, hb⟩ := hrel
    have hxl : xs.length ≤ 20 := by
      have := congrArg List.length hput
      rw [List.length_append] at this
      omega
    have HP := Lib.hid hput
    have HB := Lib.hid hb
    clear hput hb
    by_cases h9 : n < 10
    · have h9z : ¬ (9 : Int) < (n : Int) := by omega
      obtain ⟨c, hc⟩ : ∃ c, c = UInt8.ofNat (48 + n) := ⟨_, rfl⟩
      have hcn : c.toNat = 48 + n := by rw [hc]; exact dig_nat h9
      have hw1 : IntKind.u64.wrap (48 + (n : Int)) = 48 + (n : Int) := by rw [IntKind.wrap_u64]; omega
      have hw2 : IntKind.u8.wrap (48 + (n : Int)) = (c.toNat : Int) := by rw [IntKind.wrap_u8]; omega
      have hcv := conv_one wr c
      have hadd : ∀ w, Sem.run Tryz.prog (Op.stringOp .add (str [c]) (str xs)) w = .ok (.string (str (Lib.decDigits U))) w := fun w => by
        have e : str [c] ++ str xs = str (Lib.decDigits U) := by rw [HP.out, Lib.decDigits_one h9, ← hc, Wire.str_append]
        rw [← e]
        exact run_string_add_sum w _ _ (by rw [size_str, size_str]; simp; omega)
      have hb' := HB.out.alloc HB.out.size (.cells #[.int .u8 (c.toNat : Int)] 5)
      clear hc hcn h9
      go_wp2
      go_ret
      exact ⟨rfl, hb'⟩
    · have h9z : (9 : Int) < (n : Int) := by omega
      obtain ⟨r, hr⟩ : ∃ r, r = n % 10 := ⟨_, rfl⟩
      obtain ⟨q, hq⟩ : ∃ q, q = n / 10 := ⟨_, rfl⟩
      have hrt : (n : Int).tmod 10 = (r : Int) := by rw [Int.tmod_eq_emod_of_nonneg (by omega)]; omega
      have hre : (n : Int) % 10 = (r : Int) := by omega
      have hqt : (n : Int).tdiv 10 = (q : Int) := by rw [Int.tdiv_eq_ediv_of_nonneg (by omega)]; omega
      have hqe : (n : Int) / 10 = (q : Int) := by omega
      obtain ⟨c, hc⟩ : ∃ c, c = UInt8.ofNat (48 + r) := ⟨_, rfl⟩
      have hcn : c.toNat = 48 + r := by rw [hc]; exact dig_nat (by omega)
      have hw1 : IntKind.u64.wrap (48 + (r : Int)) = 48 + (r : Int) := by rw [IntKind.wrap_u64]; omega
      have hw2 : IntKind.u8.wrap (48 + (r : Int)) = (c.toNat : Int) := by rw [IntKind.wrap_u8]; omega
      have hw3 : IntKind.u64.wrap (q : Int) = (q : Int) := by rw [IntKind.wrap_u64]; omega
      have hw4 : IntKind.u64.wrap (r : Int) = (r : Int) := by rw [IntKind.wrap_u64]; omega
      have hcv := conv_one wr c
      have hadd : ∀ w, Sem.run Tryz.prog (Op.stringOp .add (str [c]) (str xs)) w = .ok (.string (str (c :: xs))) w := fun w => by
        have e : str [c] ++ str xs = str (c :: xs) := Wire.str_append [c] xs
        rw [← e]
        exact run_string_add_sum w _ _ (by rw [size_str, size_str]; simp; omega)
      have hb' := HB.out.alloc HB.out.size (.cells #[.int .u8 (c.toNat : Int)] 5)
      have HN : Hid (Lib.decDigits U = Lib.decDigits q ++ (c :: xs)) := Lib.hid (by rw [HP.out, dec_more h9, ← hr, ← hq, ← hc]; simp)
      have hqn : q < n := by omega
      have hq64 : q < 18446744073709551616 := by omega
      clear hc hcn hr hq h9
      go_wp2
      go_roundw
      case rel => exact ⟨q, c :: xs, hq64, rfl, rfl, HN.out, hb'⟩
      case measure => simp [intOf]; omega
end Go.Proofs.YtbilkeadhflibaaGreatDoor.Job
