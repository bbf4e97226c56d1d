/- The chapter's examples, which every statement asks first, are answered as they should be. -/
import Derived.Test.YtloigbnfdldfcaaText
import Derived.Test.YtloigbnfdldfcaaNum
namespace Go.Proofs.Ytloigbnfdldfcaa.Wire
open Go.RowKit

theorem put300 : putL 300 = [172, 2] := by rw [putL_ge (by omega), putL_lt (by omega)]; rfl
theorem str300 : str (putL 300) = ⟨#[172, 2]⟩ := by rw [put300]; rfl
theorem get300 : getV (⟨#[120, 172, 2]⟩ : ByteArray).data.toList 1 = some (300, 3) := by
  have h : Stands 300 ((⟨#[120, 172, 2]⟩ : ByteArray).data.toList.drop 1) := ⟨by decide, [], by rw [put300]; rfl⟩
  have := getV_of h
  rw [put300] at this
  exact this
theorem getLong : getV (⟨#[172, 128, 0]⟩ : ByteArray).data.toList 0 = none := by
  have e : takeL 10 ((⟨#[172, 128, 0]⟩ : ByteArray).data.toList.drop (0 : Int).toNat) = some (44, 3) := rfl
  unfold getV
  rw [if_neg (by decide), e]
  simp only
  rw [if_neg]
  rw [show 44 % 18446744073709551616 = 44 from rfl, putL_lt (by decide)]
  decide
theorem getTwo : getV (⟨#[2, 97, 98]⟩ : ByteArray).data.toList 0 = some (2, 1) := by
  have h : Stands 2 ((⟨#[2, 97, 98]⟩ : ByteArray).data.toList.drop 0) := ⟨by decide, [97, 98], by rw [putL_lt (by decide)]; rfl⟩
  have := getV_of h
  rw [putL_lt (by decide)] at this
  exact this
theorem textTwo : textV (⟨#[2, 97, 98]⟩ : ByteArray).data.toList 0 2 = some (1, 3) := by
  unfold textV
  rw [getTwo]
  rfl
theorem textOne : textV (⟨#[2, 97, 98]⟩ : ByteArray).data.toList 0 1 = none := by
  unfold textV
  rw [getTwo]
  rfl

theorem put_ex (w : World) : Calls Try.prog 14 #[.int .u64 300] w fun e w' => e = .returned (.string ⟨#[172, 2]⟩) ∧ Below w.heap.size w w' := by
  have := put_any 300 (by decide) w
  rw [str300] at this
  exact this
theorem get_ex1 (w : World) : Calls Try.prog 10 #[.string (⟨#[120]⟩ ++ ⟨#[172, 2]⟩), .int .i64 1] w fun e w' => e = .returned (.tuple #[.int .u64 300, .int .i64 3, .bool true]) ∧ Below w.heap.size w w' :=
  get_yes _ (by decide) 1 300 3 get300 w
theorem get_ex2 (w : World) : Calls Try.prog 10 #[.string ⟨#[172, 128, 0]⟩, .int .i64 0] w fun e w' => e = .returned (.tuple #[.int .u64 0, .int .i64 0, .bool false]) ∧ Below w.heap.size w w' :=
  get_no _ (by decide) 0 getLong w
theorem text_ex1 (w : World) : Calls Try.prog 12 #[.string ⟨#[2, 97, 98]⟩, .int .i64 0, .int .i64 2] w fun e w' => e = .returned (.tuple #[.string ⟨#[97, 98]⟩, .int .i64 3, .bool true]) ∧ Below w.heap.size w w' := by
  have := text_yes ⟨#[2, 97, 98]⟩ (by decide) 0 2 (by decide) 1 3 textTwo w
  have e : (⟨#[2, 97, 98]⟩ : ByteArray).extract 1 3 = ⟨#[97, 98]⟩ := by decide
  rw [e] at this
  exact this
theorem text_ex2 (w : World) : Calls Try.prog 12 #[.string ⟨#[2, 97, 98]⟩, .int .i64 0, .int .i64 1] w fun e w' => e = .returned (.tuple #[.string ⟨#[]⟩, .int .i64 0, .bool false]) ∧ Below w.heap.size w w' :=
  text_no _ (by decide) 0 1 (by decide) textOne w

/-- One step behind another, of worlds that only grow. -/
theorem grows {a b c : World} (h : Below a.heap.size a b) (k : Below b.heap.size b c) : Below a.heap.size a c := h.trans (k.mono h.size)

set_option maxRecDepth 100000 in
set_option maxHeartbeats 2000000 in
theorem examples_any (w : World) : Calls Try.prog 9 #[] w fun e w' => e = .returned (.bool true) ∧ Below w.heap.size w w' := by
  go_enter Try.func9, Try.ntmps9
  go_wp2_with fail
  refine (put_ex _).mono ?_
  rintro e w1 ⟨rfl, hb1⟩
  go_wp2_with fail
  refine (get_ex1 _).mono ?_
  rintro e w2 ⟨rfl, hb2⟩
  go_wp2_with fail
  refine (get_ex2 _).mono ?_
  rintro e w3 ⟨rfl, hb3⟩
  go_wp2_with fail
  refine (text_ex1 _).mono ?_
  rintro e w4 ⟨rfl, hb4⟩
  go_wp2_with fail
  refine (text_ex2 _).mono ?_
  rintro e w5 ⟨rfl, hb5⟩
  have hb := grows (grows (grows (grows hb1 hb2) hb3) hb4) hb5
  clear hb1 hb2 hb3 hb4 hb5
  go_wp2_with fail
  refine (Num.add_yes 9223372036854775808 9223372036854775807 (by decide) (by decide) (by decide) _).mono ?_
  rintro e w' ⟨rfl, rfl⟩
  go_wp2_with fail
  refine (Num.add_no 9223372036854775808 9223372036854775808 (by decide) (by decide) (by decide) (by decide) (by decide) _).mono ?_
  rintro e w' ⟨rfl, rfl⟩
  go_wp2_with fail
  refine (Num.sub_yes 7 7 (by decide) (by decide) (by decide) (by decide) _).mono ?_
  rintro e w' ⟨rfl, rfl⟩
  go_wp2_with fail
  refine (Num.sub_no 7 8 (by decide) _).mono ?_
  rintro e w' ⟨rfl, rfl⟩
  go_wp2_with fail
  refine (Num.mul_yes 4294967296 2147483648 (by decide) (by decide) (by decide) _).mono ?_
  rintro e w' ⟨rfl, rfl⟩
  go_wp2_with fail
  refine (Num.mul_no 4294967296 4294967296 (by decide) (by decide) (by decide) _).mono ?_
  rintro e w' ⟨rfl, rfl⟩
  go_wp2_with fail
  refine (put_ex _).mono ?_
  rintro e w6 ⟨rfl, hb6⟩
  have hb' := grows hb hb6
  clear hb hb6
  go_wp2
  go_ret
  exact ⟨rfl, hb'⟩
end Go.Proofs.Ytloigbnfdldfcaa.Wire
