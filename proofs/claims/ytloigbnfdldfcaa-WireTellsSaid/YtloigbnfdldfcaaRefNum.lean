/- The document's own Add, Sub, Mul and GetText answer what the program's do, for all arguments. -/
import Derived.Test.YtloigbnfdldfcaaRefGet
import Derived.Test.YtloigbnfdldfcaaRefPut
import Derived.Test.YtloigbnfdldfcaaNum
namespace Go.Proofs.Ytloigbnfdldfcaa.Wire
open Go.RowKit Go.Proofs.Ytloigbnfdldfcaa.Num

/-- Both calls hand back the same number and the same bool, and leave the world as it was. -/
def Both (f g : FuncId) (a b : Int) : Prop := ∃ (c : Int) (d : Bool),
  (∀ w, Calls Try.prog f #[.int .u64 a, .int .u64 b] w fun e w' => e = .returned (.tuple #[.int .u64 c, .bool d]) ∧ w = w') ∧
  (∀ w, Calls Try.prog g #[.int .u64 a, .int .u64 b] w fun e w' => e = .returned (.tuple #[.int .u64 c, .bool d]) ∧ w = w')

set_option maxRecDepth 100000 in
theorem both_add (a b : Int) (ha : 0 ≤ a) (hb : 0 ≤ b) (ha' : a ≤ 18446744073709551615) (hb' : b ≤ 18446744073709551615) : Both 18 19 a b := by
  by_cases h : a + b ≤ 18446744073709551615
  · refine ⟨a + b, true, add_yes a b ha hb h, fun w => ?_⟩
    go_enter Try.func19, Try.ntmps19
    go_wp2
    go_ret2
    exact ⟨rfl, rfl⟩
  · refine ⟨0, false, add_no a b ha hb ha' hb' (by omega), fun w => ?_⟩
    go_enter Try.func19, Try.ntmps19
    go_wp2
    go_ret2
    exact ⟨rfl, rfl⟩

set_option maxRecDepth 100000 in
theorem both_sub (a b : Int) (ha : 0 ≤ a) (hb : 0 ≤ b) (ha' : a ≤ 18446744073709551615) : Both 20 21 a b := by
  by_cases h : b ≤ a
  · refine ⟨a - b, true, sub_yes a b ha hb ha' h, fun w => ?_⟩
    go_enter Try.func21, Try.ntmps21
    go_wp2
    go_ret2
    exact ⟨rfl, rfl⟩
  · refine ⟨0, false, sub_no a b (by omega), fun w => ?_⟩
    go_enter Try.func21, Try.ntmps21
    go_wp2
    go_ret2
    exact ⟨rfl, rfl⟩

set_option maxRecDepth 100000 in
theorem refMul_yes (x y p q : Nat) (_hq : q ≤ 18446744073709551615) (hy0 : 0 < y) (hdiv : (18446744073709551615 : Int) / (y : Int) = (q : Int)) (hmul : IntKind.u64.wrap ((x : Int) * (y : Int)) = (p : Int)) (hx : (x : Int) ≤ (q : Int)) (w : World) :
    Calls Try.prog 23 #[.int .u64 x, .int .u64 y] w fun e w' => e = .returned (.tuple #[.int .u64 p, .bool true]) ∧ w = w' := by
  have hy : ((y : Int) != 0) = true := by rw [bne_iff_ne]; omega
  go_enter Try.func23, Try.ntmps23
  go_wp2
  go_ret2
  exact ⟨rfl, rfl⟩
set_option maxRecDepth 100000 in
theorem refMul_no (x y q : Nat) (_hq : q ≤ 18446744073709551615) (hy0 : 0 < y) (hdiv : (18446744073709551615 : Int) / (y : Int) = (q : Int)) (hx : (q : Int) < (x : Int)) (w : World) :
    Calls Try.prog 23 #[.int .u64 x, .int .u64 y] w fun e w' => e = .returned (.tuple #[.int .u64 0, .bool false]) ∧ w = w' := by
  have hy : ((y : Int) != 0) = true := by rw [bne_iff_ne]; omega
  go_enter Try.func23, Try.ntmps23
  go_wp2
  go_ret2
  exact ⟨rfl, rfl⟩
set_option maxRecDepth 100000 in
theorem refMul_zero (x : Nat) (w : World) :
    Calls Try.prog 23 #[.int .u64 x, .int .u64 0] w fun e w' => e = .returned (.tuple #[.int .u64 0, .bool true]) ∧ w = w' := by
  go_enter Try.func23, Try.ntmps23
  go_wp2
  go_ret2
  exact ⟨rfl, rfl⟩

theorem both_mul (a b : Int) (ha : 0 ≤ a) (hb : 0 ≤ b) (ha' : a ≤ 18446744073709551615) (hb' : b ≤ 18446744073709551615) : Both 22 23 a b := by
  obtain ⟨x, rfl⟩ := Int.eq_ofNat_of_zero_le ha
  obtain ⟨y, rfl⟩ := Int.eq_ofNat_of_zero_le hb
  have hx : x < 18446744073709551616 := by omega
  have hy : y < 18446744073709551616 := by omega
  by_cases hy0 : y = 0
  · subst hy0
    refine ⟨0, true, fun w => ?_, refMul_zero x⟩
    have := mul_yes x 0 hx (by decide) (by rw [Nat.mul_zero]; decide) w
    rw [Nat.mul_zero] at this
    exact this
  · have hdiv : (18446744073709551615 : Int) / (y : Int) = ((18446744073709551615 / y : Nat) : Int) := by rw [Int.natCast_ediv]; rfl
    have hq : 18446744073709551615 / y ≤ 18446744073709551615 := Nat.div_le_self _ _
    have hle : x ≤ 18446744073709551615 / y ↔ x * y ≤ 18446744073709551615 := Nat.le_div_iff_mul_le (by omega)
    by_cases hp : x * y < 18446744073709551616
    · refine ⟨((x * y : Nat) : Int), true, mul_yes x y hx hy hp, fun w => ?_⟩
      have h1 : x ≤ 18446744073709551615 / y := hle.2 (by omega)
      exact refMul_yes x y (x * y) _ hq (by omega) hdiv (by rw [← Int.natCast_mul]; exact Mul64.wrapN _ hp) (by omega) w
    · refine ⟨0, false, mul_no x y hx hy (by omega), fun w => ?_⟩
      have h1 : ¬ x ≤ 18446744073709551615 / y := fun h => by have := hle.1 h; omega
      exact refMul_no x y _ hq (by omega) hdiv (by omega) w

theorem refGet_yes (s : ByteArray) (hs : s.size ≤ 9223372036854775797) (p : Int) (u n : Nat) (h : getV s.data.toList p = some (u, n)) (w : World) :
    Calls Try.prog 11 #[.string s, .int .i64 p] w fun e w' => e = .returned (.tuple #[.int .u64 u, .int .i64 n, .bool true]) ∧ w = w' := by
  have := refGet_any s hs p w
  rw [h] at this
  exact this
theorem refGet_no (s : ByteArray) (hs : s.size ≤ 9223372036854775797) (p : Int) (h : getV s.data.toList p = none) (w : World) :
    Calls Try.prog 11 #[.string s, .int .i64 p] w fun e w' => e = .returned (.tuple #[.int .u64 0, .int .i64 0, .bool false]) ∧ w = w' := by
  have := refGet_any s hs p w
  rw [h] at this
  exact this

set_option maxRecDepth 100000 in
set_option maxHeartbeats 1000000 in
theorem refText_yes (s : ByteArray) (hs : s.size ≤ 9223372036854775797) (p most : Int) (hmost : most ≤ 9223372036854775807) (a n : Nat) (h : textV s.data.toList p most = some (a, n)) (w : World) :
    Calls Try.prog 13 #[.string s, .int .i64 p, .int .i64 most] w fun e w' => e = .returned (.tuple #[.string (s.extract a n), .int .i64 n, .bool true]) ∧ w = w' := by
  unfold textV at h
  split at h
  · simp at h
  rename_i x hg
  split at h
  · simp at h
  rename_i hc
  simp only [Option.some.injEq, Prod.mk.injEq] at h
  obtain ⟨u, from'⟩ := x
  simp only at h hc
  have hlt := getV_lt hg
  rw [size_list] at hc hlt
  have HG := Lib.hid (refGet_yes s hs p u from' hg)
  have h1 : 0 ≤ most := by omega
  have h2 : (u : Int) ≤ most := by omega
  have h3 : (u : Int) ≤ (s.size : Int) - (from' : Int) := by omega
  have h4 : from' ≤ s.size := by omega
  obtain ⟨rfl, rfl⟩ := h
  clear hg hc hlt
  go_enter Try.func13, Try.ntmps13
  go_wp2_with (go_at_call 11; refine (HG.out _).mono ?_; rintro e w1 ⟨rfl, rfl⟩)
  go_ret3
  exact ⟨by go_num, rfl⟩

set_option maxRecDepth 100000 in
set_option maxHeartbeats 1000000 in
theorem refText_no (s : ByteArray) (hs : s.size ≤ 9223372036854775797) (p most : Int) (hmost : most ≤ 9223372036854775807) (h : textV s.data.toList p most = none) (w : World) :
    Calls Try.prog 13 #[.string s, .int .i64 p, .int .i64 most] w fun e w' => e = .returned (.tuple #[.string ⟨#[]⟩, .int .i64 0, .bool false]) ∧ w = w' := by
  unfold textV at h
  split at h
  · rename_i hg
    have HG := Lib.hid (refGet_no s hs p hg)
    clear hg h
    go_enter Try.func13, Try.ntmps13
    go_wp2_with (go_at_call 11; refine (HG.out _).mono ?_; rintro e w1 ⟨rfl, rfl⟩)
    go_ret3
    exact ⟨rfl, rfl⟩
  · rename_i x hg
    obtain ⟨u, from'⟩ := x
    simp only [ite_eq_left_iff, reduceCtorEq, imp_false, Decidable.not_not] at h
    have hlt := getV_lt hg
    rw [size_list] at h hlt
    have HG := Lib.hid (refGet_yes s hs p u from' hg)
    have h4 : from' ≤ s.size := by omega
    have hu : (u : Int) ≤ 18446744073709551615 := by omega
    clear hg hlt
    by_cases h1 : most < 0
    · clear h
      go_enter Try.func13, Try.ntmps13
      go_wp2_with (go_at_call 11; refine (HG.out _).mono ?_; rintro e w1 ⟨rfl, rfl⟩)
      go_ret3
      exact ⟨rfl, rfl⟩
    · by_cases h2 : most < (u : Int)
      · clear h
        go_enter Try.func13, Try.ntmps13
        go_wp2_with (go_at_call 11; refine (HG.out _).mono ?_; rintro e w1 ⟨rfl, rfl⟩)
        go_ret3
        exact ⟨rfl, rfl⟩
      · have h3 : (s.size : Int) - (from' : Int) < (u : Int) := by omega
        clear h
        go_enter Try.func13, Try.ntmps13
        go_wp2_with (go_at_call 11; refine (HG.out _).mono ?_; rintro e w1 ⟨rfl, rfl⟩)
        go_ret3
        exact ⟨rfl, rfl⟩

end Go.Proofs.Ytloigbnfdldfcaa.Wire
