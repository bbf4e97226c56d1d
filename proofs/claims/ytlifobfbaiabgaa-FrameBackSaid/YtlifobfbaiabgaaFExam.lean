/- The chapter's examples, which every statement asks first, are answered as they should be. -/
import Derived.Test.YtlifobfbaiabgaaFAllV
import Derived.Test.YtlifobfbaiabgaaFPut
import Derived.Test.YtlifobfbaiabgaaFKnown
namespace Go.Proofs.Ytlifobfbaiabgaa.Frame
open Go.RowKit

abbrev recAb : ByteArray := ⟨#[0, 0, 0, 2, 158, 131, 72, 109, 97, 98]⟩
abbrev recNone : ByteArray := ⟨#[0, 0, 0, 0, 0, 0, 0, 0]⟩
set_option maxRecDepth 100000 in
theorem putF_ab : putF [97, 98] = [0, 0, 0, 2, 158, 131, 72, 109, 97, 98] := by kernel_rfl
set_option maxRecDepth 100000 in
theorem putF_none : putF [] = [0, 0, 0, 0, 0, 0, 0, 0] := by kernel_rfl
theorem grows {a b c : World} (h : Below a.heap.size a b) (k : Below b.heap.size b c) : Below a.heap.size a c := h.trans (k.mono h.size)
theorem put_ab (w : World) : Calls Try.prog 10 #[.string ⟨#[97, 98]⟩] w fun e w' => e = .returned (.string recAb) ∧ Below w.heap.size w w' := by
  have := put_any ⟨#[97, 98]⟩ (by decide) w
  rw [show putF (⟨#[97, 98]⟩ : ByteArray).data.toList = [0, 0, 0, 2, 158, 131, 72, 109, 97, 98] from putF_ab] at this
  exact this
theorem put_none (w : World) : Calls Try.prog 10 #[.string ⟨#[]⟩] w fun e w' => e = .returned (.string recNone) ∧ Below w.heap.size w w' := by
  have := put_any ⟨#[]⟩ (by decide) w
  rw [show putF (⟨#[]⟩ : ByteArray).data.toList = [0, 0, 0, 0, 0, 0, 0, 0] from putF_none] at this
  exact this
set_option maxRecDepth 100000 in
theorem nextF_ab : nextF [120, 0, 0, 0, 2, 158, 131, 72, 109, 97, 98] 1 = some (9, 11) := by kernel_rfl
theorem next_ab (w : World) : Calls Try.prog 11 #[.string (⟨#[120]⟩ ++ recAb), .int .i64 1] w fun e w' => e = .returned (.tuple #[.string ⟨#[97, 98]⟩, .int .i64 11, .bool true]) ∧ w = w' := by
  have := next_any (⟨#[120]⟩ ++ recAb) (by decide) 1 (by decide) (by decide) w
  rw [show (⟨#[120]⟩ ++ recAb : ByteArray).data.toList = [120, 0, 0, 0, 2, 158, 131, 72, 109, 97, 98] from rfl, nextF_ab] at this
  rw [show nextR (⟨#[120]⟩ ++ recAb) (some (9, 11)) = .tuple #[.string ⟨#[97, 98]⟩, .int .i64 11, .bool true] from rfl] at this
  exact this
set_option maxRecDepth 100000 in
theorem allL_ex : allL [0, 0, 0, 2, 158, 131, 72, 109, 97, 98, 0, 0, 0, 0, 0, 0, 0, 0, 0, 0] = ([(8, 10), (18, 18)], 18) := by kernel_rfl
theorem all_ex (w : World) : Calls Try.prog 13 #[.string (recAb ++ recNone ++ ⟨#[0, 0]⟩)] w fun e w' => ∃ g cap, e = .returned (.tuple #[.slice (some ⟨g, 0, none⟩) 2 cap, .int .i64 18]) ∧
    w'.cell? ⟨g, 0, none⟩ = some (.string ⟨#[97, 98]⟩) ∧ w'.cell? ⟨g, 1, none⟩ = some (.string ⟨#[]⟩) ∧ 2 ≤ cap ∧ Below w.heap.size w w' := by
  have h := all_any (recAb ++ recNone ++ ⟨#[0, 0]⟩) (by decide) w
  rw [show (recAb ++ recNone ++ ⟨#[0, 0]⟩ : ByteArray).data.toList = [0, 0, 0, 2, 158, 131, 72, 109, 97, 98, 0, 0, 0, 0, 0, 0, 0, 0, 0, 0] from rfl, allL_ex] at h
  refine h.mono ?_
  rintro e w' ⟨v, rfl, hown, hb⟩
  rcases hown.2 with ⟨_, h0⟩ | ⟨g, cap, cur, rfl, _, _, hcap, _⟩
  · cases h0
  · have c0 := hown.cellAt 0 (by decide)
    have c1 := hown.cellAt 1 (by decide)
    exact ⟨g, cap, rfl, c0, c1, hcap, hb⟩
theorem sum_nine (w : World) : Calls Try.prog 16 #[.string ⟨#[49, 50, 51, 52, 53, 54, 55, 56, 57]⟩] w fun e w' => e = .returned (.int .u32 3421780262) ∧ w = w' := by
  have := sum_any ⟨#[49, 50, 51, 52, 53, 54, 55, 56, 57]⟩ (by decide) w
  rw [show crcL (⟨#[49, 50, 51, 52, 53, 54, 55, 56, 57]⟩ : ByteArray).data.toList = 3421780262 from crc_nine] at this
  exact this

set_option maxRecDepth 100000 in
set_option maxHeartbeats 2000000 in
theorem examples_any (w : World) : Calls Try.prog 9 #[] w fun e w' => e = .returned (.bool true) ∧ Below w.heap.size w w' := by
  have H1 := Lib.hid put_ab
  have H2 := Lib.hid next_ab
  have H3 := Lib.hid all_ex
  have p1 : recAb.size = 10 := rfl
  have p2 : recAb.extract 0 4 = ⟨#[0, 0, 0, 2]⟩ := by decide
  obtain ⟨p, hp⟩ : ∃ p, recAb = p := ⟨_, rfl⟩
  rw [hp] at H1 H2 H3 p1 p2
  clear hp
  have hcat : (p ++ recNone ++ ⟨#[0, 0]⟩).size ≤ 100 := by rw [ByteArray.size_append, ByteArray.size_append, p1]; decide
  go_enter Try.func9, Try.ntmps9
  go_wp2_with fail
  refine (H1.out _).mono ?_
  rintro e w1 ⟨rfl, hb1⟩
  go_wp2_with fail
  refine (H2.out _).mono ?_
  rintro e w2 ⟨rfl, rfl⟩
  go_wp2_with fail
  refine (put_none _).mono ?_
  rintro e w2 ⟨rfl, hb2⟩
  go_wp2_with fail
  refine (H3.out _).mono ?_
  rintro e w3 ⟨g, cap, rfl, c0, c1, hcap, hb3⟩
  have hb := grows (grows hb1 hb2) hb3
  go_wp2_with fail
  refine (sum_nine _).mono ?_
  rintro e w4 ⟨rfl, rfl⟩
  have hcz : (2 : Int) ≤ (cap : Int) := by omega
  clear hb1 hb2 hb3
  go_wp2
  go_ret
  exact ⟨rfl, hb⟩
end Go.Proofs.Ytlifobfbaiabgaa.Frame
