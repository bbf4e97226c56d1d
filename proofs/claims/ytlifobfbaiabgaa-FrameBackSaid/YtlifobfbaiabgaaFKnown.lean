/- Sums of the chapter's examples, by the kernel; of no program. -/
import Derived.Test.YtlifobfbaiabgaaFForm
namespace Go.Proofs.Ytlifobfbaiabgaa.Frame
set_option maxRecDepth 100000 in
theorem crc_nine : crcL [49, 50, 51, 52, 53, 54, 55, 56, 57] = 3421780262 := by kernel_rfl
theorem crc_none : crcL [] = 0 := by kernel_rfl
theorem four_eq {a b : Nat} (ha : a < 4294967296) (hb : b < 4294967296) (h : four a = four b) : a = b := by
  have h1 := fourV_four ha []
  have h2 := fourV_four hb []
  rw [h] at h1
  omega
/-- What bears another text's sum is no record of that length. -/
theorem next_spoilt {b c r : List UInt8} (hb : b.length ≤ 65536) (hl : c.length = b.length) (hc : crcL c ≠ crcL b) : nextF (four b.length ++ four (crcL b) ++ c ++ r) 0 = none := by
  have hn : fourV ((four b.length ++ four (crcL b) ++ c ++ r).drop (0 : Int).toNat) = b.length := by
    show fourV (four b.length ++ four (crcL b) ++ c ++ r) = _
    rw [List.append_assoc, List.append_assoc]; exact fourV_four (by omega) _
  have hs : (four b.length ++ four (crcL b) ++ c ++ r).drop 0 = (four b.length ++ four (crcL b) ++ c) ++ r := rfl
  unfold nextF
  rw [if_neg (by simp [four_len]; omega), hn, if_neg (by simp [four_len]; omega), if_neg]
  have e1 := drop_cut hs (a := 4) (b := 8) (by simp [four_len]; omega)
  have e2 := drop_cut hs (a := 8) (b := 8 + b.length) (by simp [four_len]; omega)
  show cut _ (0 + 4) (0 + 8) ≠ four (crcL (cut _ (0 + 8) (0 + 8 + b.length)))
  rw [e1, Nat.add_assoc, e2]
  have c1 : cut (four b.length ++ four (crcL b) ++ c) 4 8 = four (crcL b) := rfl
  have c2 : cut (four b.length ++ four (crcL b) ++ c) 8 (8 + b.length) = c := by
    show (c.take (8 + b.length - 8)) = c
    rw [Nat.add_sub_cancel_left, List.take_of_length_le (by omega)]
  rw [c1, c2]
  exact fun h => hc (four_eq (crcL_lt _) (crcL_lt _) h).symm
end Go.Proofs.Ytlifobfbaiabgaa.Frame
