/- Proved: demesnelaw01.WireProducts answers true for every two numbers of 64 bits, and leaves them as they were. No condition. -/
import Derived.Test.YtloigbnfdldfcaaEnd
import Derived.Test.YtloigbnfdldfcaaExamples
namespace Go.Proofs.Ytloigbnfdldfcaa.wireProducts
open Go.ChangeShapes Go.WideShapes Go.ChangeAt Go.RowKit
open Go.Proofs.Ytloigbnfdldfcaa.Wire Go.Proofs.Ytloigbnfdldfcaa.Num

theorem mul_by_zero (x : Nat) (hx : x < 18446744073709551616) (w : World) :
    Calls Try.prog 22 #[.int .u64 x, .int .u64 0] w fun e w' => e = .returned (.tuple #[.int .u64 0, .bool true]) ∧ w = w' := by
  have := mul_yes x 0 hx (by decide) (by rw [Nat.mul_zero]; decide) w
  rw [Nat.mul_zero] at this
  exact this
theorem mul_by_one (x : Nat) (hx : x < 18446744073709551616) (w : World) :
    Calls Try.prog 22 #[.int .u64 x, .int .u64 1] w fun e w' => e = .returned (.tuple #[.int .u64 x, .bool true]) ∧ w = w' := by
  have := mul_yes x 1 hx (by decide) (by rw [Nat.mul_one]; exact hx) w
  rw [Nat.mul_one] at this
  exact this

set_option maxRecDepth 100000 in
set_option maxHeartbeats 2000000 in
theorem walk_fits (x y p : Nat) (hx : x < 18446744073709551616) (hy : y < 18446744073709551616) (hp : p < 18446744073709551616) (hy0 : 0 < y)
    (H1 : Hid (p = x * y)) (w : World) :
    Calls Try.prog 7 #[.int .u64 x, .int .u64 y] w fun e w' => e = .returned (.bool true) ∧ Below w.heap.size w w' := by
  have HA : Hid (∀ w, Calls Try.prog 22 #[.int .u64 x, .int .u64 y] w fun e w' => e = .returned (.tuple #[.int .u64 p, .bool true]) ∧ w = w') := fun w => by rw [H1.out]; exact mul_yes x y hx hy (by rw [← H1.out]; exact hp) w
  have HB : Hid (∀ w, Calls Try.prog 22 #[.int .u64 y, .int .u64 x] w fun e w' => e = .returned (.tuple #[.int .u64 p, .bool true]) ∧ w = w') := fun w => by rw [H1.out, Nat.mul_comm]; exact mul_yes y x hy hx (by rw [Nat.mul_comm, ← H1.out]; exact hp) w
  have hmul : IntKind.u64.wrap ((x : Int) * (y : Int)) = (p : Int) := by rw [← Int.natCast_mul, ← H1.out, IntKind.wrap_u64]; omega
  have hdiv : (p : Int) / (y : Int) = (x : Int) := by rw [H1.out, ← Int.natCast_ediv, Nat.mul_div_cancel _ hy0]
  have hyb : ((y : Int) == 0) = false := by rw [beq_eq_false_iff_ne]; omega
  have hxx : ((x : Int) == (x : Int)) = true := by simp
  go_enter Try.func7, Try.ntmps7
  go_wp2_with fail
  refine (examples_any _).mono ?_
  rintro e w1 ⟨rfl, hw⟩
  go_wp2_with fail
  refine (HA.out _).mono ?_
  rintro e w' ⟨rfl, rfl⟩
  go_wp2_with fail
  refine (HB.out _).mono ?_
  rintro e w' ⟨rfl, rfl⟩
  go_wp2_with fail
  refine (mul_by_zero x hx _).mono ?_
  rintro e w' ⟨rfl, rfl⟩
  go_wp2_with fail
  refine (mul_by_one x hx _).mono ?_
  rintro e w' ⟨rfl, rfl⟩
  go_wp2
  go_ret
  exact ⟨rfl, hw⟩

set_option maxRecDepth 100000 in
set_option maxHeartbeats 2000000 in
theorem walk_over (x y p q r : Nat) (hx : x < 18446744073709551616) (hy : y < 18446744073709551616) (hp : 18446744073709551616 ≤ p) (hy0 : 0 < y) (hqx : q < x) (_hr : r < 18446744073709551616)
    (H1 : Hid (p = x * y)) (H2 : Hid (r = p % 18446744073709551616)) (H3 : Hid (q = r / y)) (w : World) :
    Calls Try.prog 7 #[.int .u64 x, .int .u64 y] w fun e w' => e = .returned (.bool true) ∧ Below w.heap.size w w' := by
  have HA : Hid (∀ w, Calls Try.prog 22 #[.int .u64 x, .int .u64 y] w fun e w' => e = .returned (.tuple #[.int .u64 0, .bool false]) ∧ w = w') := fun w => mul_no x y hx hy (by rw [← H1.out]; exact hp) w
  have HB : Hid (∀ w, Calls Try.prog 22 #[.int .u64 y, .int .u64 x] w fun e w' => e = .returned (.tuple #[.int .u64 0, .bool false]) ∧ w = w') := fun w => mul_no y x hy hx (by rw [Nat.mul_comm, ← H1.out]; exact hp) w
  have hmul : IntKind.u64.wrap ((x : Int) * (y : Int)) = (r : Int) := by rw [← Int.natCast_mul, ← H1.out, IntKind.wrap_u64, H2.out]; omega
  have hdiv : (r : Int) / (y : Int) = (q : Int) := by rw [H3.out, ← Int.natCast_ediv]
  have hyb : ((y : Int) == 0) = false := by rw [beq_eq_false_iff_ne]; omega
  have hxx : ((q : Int) == (x : Int)) = false := by rw [beq_eq_false_iff_ne]; omega
  clear hp
  go_enter Try.func7, Try.ntmps7
  go_wp2_with fail
  refine (examples_any _).mono ?_
  rintro e w1 ⟨rfl, hw⟩
  go_wp2_with fail
  refine (HA.out _).mono ?_
  rintro e w' ⟨rfl, rfl⟩
  go_wp2_with fail
  refine (HB.out _).mono ?_
  rintro e w' ⟨rfl, rfl⟩
  go_wp2_with fail
  refine (mul_by_zero x hx _).mono ?_
  rintro e w' ⟨rfl, rfl⟩
  go_wp2_with fail
  refine (mul_by_one x hx _).mono ?_
  rintro e w' ⟨rfl, rfl⟩
  go_wp2
  go_ret
  exact ⟨rfl, hw⟩

set_option maxRecDepth 100000 in
set_option maxHeartbeats 2000000 in
theorem walk_none (x : Nat) (hx : x < 18446744073709551616) (w : World) :
    Calls Try.prog 7 #[.int .u64 x, .int .u64 0] w fun e w' => e = .returned (.bool true) ∧ Below w.heap.size w w' := by
  have HA : Hid (∀ w, Calls Try.prog 22 #[.int .u64 x, .int .u64 0] w fun e w' => e = .returned (.tuple #[.int .u64 0, .bool true]) ∧ w = w') := mul_by_zero x hx
  have HB : Hid (∀ w, Calls Try.prog 22 #[.int .u64 0, .int .u64 x] w fun e w' => e = .returned (.tuple #[.int .u64 0, .bool true]) ∧ w = w') := fun w => by
    have := mul_yes 0 x (by decide) hx (by rw [Nat.zero_mul]; decide) w
    rw [Nat.zero_mul] at this
    exact this
  go_enter Try.func7, Try.ntmps7
  go_wp2_with fail
  refine (examples_any _).mono ?_
  rintro e w1 ⟨rfl, hw⟩
  go_wp2_with fail
  refine (HA.out _).mono ?_
  rintro e w' ⟨rfl, rfl⟩
  go_wp2_with fail
  refine (HB.out _).mono ?_
  rintro e w' ⟨rfl, rfl⟩
  go_wp2_with fail
  refine (mul_by_zero x hx _).mono ?_
  rintro e w' ⟨rfl, rfl⟩
  go_wp2_with fail
  refine (mul_by_one x hx _).mono ?_
  rintro e w' ⟨rfl, rfl⟩
  go_wp2
  go_ret
  exact ⟨rfl, hw⟩

theorem walk (a b : Int) (ha : 0 ≤ a) (ha' : a ≤ 18446744073709551615) (hb : 0 ≤ b) (hb' : b ≤ 18446744073709551615) (w : World) :
    Calls Try.prog 7 #[.int .u64 a, .int .u64 b] w fun e w' => e = .returned (.bool true) ∧ Below w.heap.size w w' := by
  obtain ⟨x, rfl⟩ := Int.eq_ofNat_of_zero_le ha
  obtain ⟨y, rfl⟩ := Int.eq_ofNat_of_zero_le hb
  by_cases hy0 : y = 0
  · subst hy0
    exact walk_none x (by omega) w
  · by_cases hp : x * y < 18446744073709551616
    · exact walk_fits x y (x * y) (by omega) (by omega) hp (by omega) rfl w
    · have hq : (x * y) % 18446744073709551616 / y < x := by
        rw [Nat.div_lt_iff_lt_mul (by omega)]
        generalize x * y = z at *
        omega
      exact walk_over x y (x * y) _ _ (by omega) (by omega) (by omega) (by omega) hq (Nat.mod_lt _ (by decide)) rfl rfl rfl w

set_option maxRecDepth 100000 in
theorem lifted (os : Os) (started : os.Started) (H : Type) (enc : TypeId × Value → H) :
    ReturnsInHanded {} Try.checked os 7 .any (Rows.wireProductsSpec.pre6 enc Try.prog Try.f7 Rows.wireProductsRow.domain false) (Rows.wireProductsSpec.post enc Try.prog Try.f7 false true false false) := by
  refine returnsInHanded_of_change_sized (C := Try.checked) Ends.own started (by kernel_rfl) Try.func7
    (ChangeSpec.witness6 (enc := enc) (C := Try.checked) false ⟨#[], #[.int .u64 0, .int .u64 0], []⟩ 8 (by kernel_rfl) (by kernel_rfl) (by kernel_rfl) (by kernel_rfl)) ?_
  intro W base args ds gs before hval0 hW _ _ _
  have hval : ∀ (j : Nat) t v, Try.f7.params[j]? = some t → args[j]? = some v → Value.okWide Try.prog W .any base t v := hval0
  have hW' := hW
  obtain ⟨p, q, hA0, hV, rfl, hfz, hnd⟩ := hW
  have hA : DataW.TrodAll enc Try.prog W 0 (fun _ => true) true Try.f7.params.toList args.toList ds p := hA0
  rw [Try.params7] at hA hval
  obtain ⟨v0, vs0, d0, ds0, p0, q0, hargs, rfl, rfl, h0, r0⟩ := trodAll_cons hA
  obtain ⟨v1, vs1, d1, ds1, p1, q1, rfl, rfl, rfl, h1, r1⟩ := trodAll_cons r0
  obtain ⟨rfl, rfl, rfl⟩ := trodAll_nil r1
  obtain rfl : args = #[v0, v1] := by cases args; simp_all
  obtain ⟨rfl, rfl⟩ := trodVars_none hV
  obtain ⟨a0, rfl, rfl, rfl, w0⟩ := open_int Try.underlying22 (hval 0 22 v0 rfl rfl) h0
  obtain ⟨a1, rfl, rfl, rfl, w1⟩ := open_int Try.underlying22 (hval 1 22 v1 rfl rfl) h1
  have b0 := bounds_u64 w0
  have b1 := bounds_u64 w1
  refine (walk a0 a1 b0.1 b0.2 b1.1 b1.2 W).mono fun e W' ⟨he, hb⟩ => ?_
  subst he
  exact ⟨_, rfl, Ends.law_end Ends.laidOut (by rw [Try.params7]; decide +kernel) rfl (by kernel_rfl) Try.underlying4 hW' rfl hb⟩

/-- The statement. -/
theorem proved : Rows.WireProductsSaid :=
  OpenClaim.holds_of_wide 7 Try.f7 rfl rfl rfl rfl rfl rfl rfl ⟨rfl, rfl, rfl, rfl, rfl⟩ rfl rfl rfl rfl rfl (by kernel_rfl) Try.func7 (by kernel_rfl)
    (of_decide_eq_true (by kernel_rfl)) (by unfold Func.isWrapper; first | (rw [if_pos (by decide +kernel)]; kernel_rfl) | (rw [if_neg (by decide +kernel)]; exact ⟨rfl, rfl⟩))
    (fun os started H enc _ => lifted os started H enc)
end Go.Proofs.Ytloigbnfdldfcaa.wireProducts
