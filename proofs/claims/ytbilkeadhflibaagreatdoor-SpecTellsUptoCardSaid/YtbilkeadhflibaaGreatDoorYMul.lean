/- What the document's own Mul answers (chapter 1). -/
import Derived.Test.YtbilkeadhflibaaGreatDoorJL4
namespace Go.Proofs.YtbilkeadhflibaaGreatDoor.Num
open Go.RowKit Go.Proofs.YtbilkeadhflibaaGreatDoor.Wire

set_option maxRecDepth 100000 in
theorem refMul_yes (x y p q : Nat) (_hq : q ≤ 18446744073709551615) (hy0 : 0 < y) (hdiv : (18446744073709551615 : Int) / (y : Int) = (q : Int)) (hmul : IntKind.u64.wrap ((x : Int) * (y : Int)) = (p : Int)) (hx : (x : Int) ≤ (q : Int)) (w : World) :
    Calls Tryz.prog 72 #[.int .u64 x, .int .u64 y] w fun e w' => e = .returned (.tuple #[.int .u64 p, .bool true]) ∧ w = w' := by
  have hy : ((y : Int) != 0) = true := by rw [bne_iff_ne]; omega
  go_enter Tryz.func72, Tryz.ntmps72
  go_wp2
  go_ret2
  exact ⟨rfl, rfl⟩
set_option maxRecDepth 100000 in
theorem refMul_no (x y q : Nat) (_hq : q ≤ 18446744073709551615) (hy0 : 0 < y) (hdiv : (18446744073709551615 : Int) / (y : Int) = (q : Int)) (hx : (q : Int) < (x : Int)) (w : World) :
    Calls Tryz.prog 72 #[.int .u64 x, .int .u64 y] w fun e w' => e = .returned (.tuple #[.int .u64 0, .bool false]) ∧ w = w' := by
  have hy : ((y : Int) != 0) = true := by rw [bne_iff_ne]; omega
  go_enter Tryz.func72, Tryz.ntmps72
  go_wp2
  go_ret2
  exact ⟨rfl, rfl⟩
set_option maxRecDepth 100000 in
theorem refMul_zero (x : Nat) (w : World) :
    Calls Tryz.prog 72 #[.int .u64 x, .int .u64 0] w fun e w' => e = .returned (.tuple #[.int .u64 0, .bool true]) ∧ w = w' := by
  go_enter Tryz.func72, Tryz.ntmps72
  go_wp2
  go_ret2
  exact ⟨rfl, rfl⟩
end Go.Proofs.YtbilkeadhflibaaGreatDoor.Num
