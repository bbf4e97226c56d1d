/- What the document's own Order and Holds answer of any amounts (chapter 3); of memory that was there nothing turns. -/
import Derived.Test.YtbilkeadhflibaaGreatDoorJL4
import Derived.Deep.QuietTactic
import Derived.Deep.DeepCutAuto
namespace Go.Proofs.YtbilkeadhflibaaGreatDoor.Vec
open Go.RowKit

/-- Four amounts of the document's in memory. -/
def boxR (x : Nat → Int) : Obj := .cells #[.int .u64 (x 0), .int .u64 (x 1), .int .u64 (x 2), .int .u64 (x 3)] 30
theorem drewN_below {B : Nat} {a w : World} (h : Below B a w) : ∀ n, Below B a (w.drewN n)
  | 0 => h
  | n + 1 => (drewN_below h n).drew
theorem cellR {w : World} {b : Nat} {x : Nat → Int} (h : w.heap[b]? = some (boxR x)) (k : Nat) (hk : k < 4) : w.cell? ⟨b, k, none⟩ = some (.int .u64 (x k)) := by
  unfold boxR at h
  match k with
  | 0 => exact cell_at h rfl
  | 1 => exact cell_at h rfl
  | 2 => exact cell_at h rfl
  | 3 => exact cell_at h rfl
  | _ + 4 => omega
theorem two_boxes (w : World) (x y : Nat → Int) {w' : World} (h : Below ((w.alloc (boxR x)).alloc (boxR y)).heap.size ((w.alloc (boxR x)).alloc (boxR y)) w') :
    w'.heap[w.heap.size]? = some (boxR x) ∧ w'.heap[w.heap.size + 1]? = some (boxR y) := by
  constructor
  · rw [h.block _ (by simp; omega), heap_alloc_old _ _ (by simp)]; exact heap_alloc_new _ _
  · rw [h.block _ (by simp)]
    have := heap_alloc_new (w.alloc (boxR x)) (boxR y)
    simpa using this


theorem wrap_u64 {n : Int} (h0 : 0 ≤ n) (h1 : n ≤ 18446744073709551615) : IntKind.u64.wrap n = n := by
  unfold IntKind.wrap; simp [IntKind.signed, IntKind.bits]; omega

end Go.Proofs.YtbilkeadhflibaaGreatDoor.Vec
