/- What math/bits.RotateLeft32 and sha.turn answer of any word, and any turn by 1 to 31; nothing is turned in memory. -/
import Derived.Test.YthopegokjbibmaaDoorProg
import Derived.Test.YthopegokjbibmaaDoorHMath
import Derived.WalkKit
import Derived.WalkSpells
import Derived.Lib.Hide
namespace Go.Proofs.YthopegokjbibmaaDoor.Sha
open Go.RowKit

theorem wrap_neg (k : Nat) (h0 : 0 < k) (h : k < 32) : IntKind.u64.wrap (-(k : Int)) = 18446744073709551616 - k := by
  simp [IntKind.wrap, IntKind.bits, IntKind.signed]; omega
theorem and31 (k : Nat) (h0 : 0 < k) (h : k < 32) : bits .and .u64 (18446744073709551616 - (k : Int)) 31 = ((32 - k : Nat) : Int) := by
  rw [show (18446744073709551616 - (k : Int)) = ((18446744073709551616 - k : Nat) : Int) by omega, show (31 : Int) = ((31 : Nat) : Int) from rfl, u64_and_nat _ _ (by omega) (by omega), nat_mask5]
  congr 1
  omega
theorem rot_int (x : Nat) (k : Nat) (hx : x < 4294967296) : bits .or .u32 ((x : Int) * 2 ^ (32 - k) % 4294967296) ((x : Int) / 2 ^ k) = ((rot x k : Nat) : Int) := by
  have e1 : ((x : Int) * 2 ^ (32 - k) % 4294967296) = ((x * 2 ^ (32 - k) % 4294967296 : Nat) : Int) := by
    rw [Int.natCast_emod, Int.natCast_mul, Int.natCast_pow]; rfl
  have e2 : ((x : Int) / 2 ^ k) = ((x / 2 ^ k : Nat) : Int) := by rw [Int.natCast_ediv, Int.natCast_pow]; rfl
  rw [e1, e2, u32_or_nat _ _ mod_lt (div_lt hx)]
  rfl
theorem ret_int {k : IntKind} {a b : Int} (h : a = b) : Ending.returned (.int k a) = .returned (.int k b) := by rw [h]
set_option maxHeartbeats 1000000 in
theorem rotate_any (x : Nat) (k : Nat) (h0 : 0 < k) (h : k < 32) (hx : x < 4294967296) (w : World) :
    Calls Tryd.prog 71 #[.int .u32 x, .int .i64 (-(k : Int))] w fun e w' => e = .returned (.int .u32 (rot x k : Nat)) ∧ w = w' := by
  have HR := Lib.hid (rot_int x k hx)
  have e1 := wrap_neg k h0 h
  have e2 := and31 k h0 h
  go_enter Tryd.func71, Tryd.ntmps71
  go_wp2
  go_ret
  exact ⟨ret_int (by rw [show 32 - (32 - k) = k by omega]; exact HR.out), rfl⟩
set_option maxHeartbeats 1000000 in
theorem turn_any (x : Nat) (k : Nat) (h0 : 0 < k) (h : k < 32) (hx : x < 4294967296) (w : World) :
    Calls Tryd.prog 70 #[.int .u32 x, .int .i64 k] w fun e w' => e = .returned (.int .u32 (rot x k : Nat)) ∧ w = w' := by
  have HR := Lib.hid (rotate_any x k h0 h hx w)
  have hw : IntKind.i64.wrap (-(k : Int)) = -(k : Int) := by simp [IntKind.wrap, IntKind.bits, IntKind.signed]; omega
  go_enter Tryd.func70, Tryd.ntmps70
  go_wp2_with fail
  refine HR.out.mono ?_
  rintro e w' ⟨rfl, rfl⟩
  go_wp2
  go_ret
  exact ⟨rfl, rfl⟩
end Go.Proofs.YthopegokjbibmaaDoor.Sha
