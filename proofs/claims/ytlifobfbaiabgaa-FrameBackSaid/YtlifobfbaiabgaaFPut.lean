/- What frame.Put answers of any text: its record, or nothing; of memory that was there nothing turns. -/
import Derived.Test.YtlifobfbaiabgaaFNum
namespace Go.Proofs.Ytlifobfbaiabgaa.Frame
open Go.RowKit

theorem str_three (l : List UInt8) (a b : Nat) : str (four a) ++ str (four b) ++ str l = str (four a ++ four b ++ l) := by rw [str_append, str_append]
set_option maxHeartbeats 1000000 in
theorem put_any (s : ByteArray) (hs : s.size ≤ 4611686018427387904) (w : World) :
    Calls Try.prog 10 #[.string s] w fun e w' => e = .returned (.string (str (putF s.data.toList))) ∧ Below w.heap.size w w' := by
  by_cases h : 65536 < s.size
  · have hz : (65536 : Int) < (s.size : Int) := by omega
    rw [show putF s.data.toList = [] by unfold putF; rw [if_pos (by rw [size_list]; exact h)]]
    go_enter Try.func10, Try.ntmps10
    go_wp2
    go_ret
    exact ⟨rfl, Below.refl _ _⟩
  · have hz : ¬ (65536 : Int) < (s.size : Int) := by omega
    have HE : Hid (str (putF s.data.toList) = str (four s.size) ++ str (four (crcL s.data.toList)) ++ s) := Lib.hid (by
      rw [putF_eq (by rw [size_list]; omega), size_list, ← str_three, str_of])
    have H1 := Lib.hid (putNumber_any s.size (by omega))
    have H2 := Lib.hid (putNumber_any (crcL s.data.toList) (crcL_lt _))
    have HS := Lib.hid (sum_any s (by omega))
    have hl1 : (str (four s.size)).size = 4 := by rw [str_size]; rfl
    have hl2 : (str (four (crcL s.data.toList))).size = 4 := by rw [str_size]; rfl
    obtain ⟨c, hc⟩ : ∃ c, crcL s.data.toList = c := ⟨_, rfl⟩
    rw [hc] at H2 HS HE hl2
    obtain ⟨x, hx⟩ : ∃ x, str (four s.size) = x := ⟨_, rfl⟩
    obtain ⟨y, hy⟩ : ∃ y, str (four c) = y := ⟨_, rfl⟩
    rw [hx] at H1 HE hl1
    rw [hy] at H2 HE hl2
    rw [HE.out]
    clear hc hx hy HE
    go_enter Try.func10, Try.ntmps10
    go_wp2_with fail
    refine (H1.out _).mono ?_
    rintro e w1 ⟨rfl, hb1⟩
    go_wp2_with fail
    refine (HS.out _).mono ?_
    rintro e w2 ⟨rfl, rfl⟩
    go_wp2_with fail
    refine (H2.out _).mono ?_
    rintro e w2 ⟨rfl, hb2⟩
    have hb := hb1.trans (hb2.mono hb1.size)
    go_wp2
    trace_state
    go_ret
    exact ⟨rfl, hb⟩
end Go.Proofs.Ytlifobfbaiabgaa.Frame
