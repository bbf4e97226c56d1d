/- What the document's own Sub answers of any amounts (chapter 3); of memory that was there nothing turns. -/
import Derived.Test.YtbilkeadhflibaaGreatDoorVRefA
import Derived.Test.YtbilkeadhflibaaGreatDoorJL4
namespace Go.Proofs.YtbilkeadhflibaaGreatDoor.Vec
open Go.RowKit


/-- The first so many of these, then nought. -/
def till (k : Nat) (v : Nat → Int) (i : Nat) : Int := if i < k then v i else 0
theorem till_zero (v : Nat → Int) : boxR (till 0 v) = boxR (fun _ => 0) := by unfold boxR till; simp
theorem till_four (v : Nat → Int) : boxR (till 4 v) = boxR v := by unfold boxR till; simp
theorem till_set {w : World} {b k : Nat} {v : Nat → Int} (h : w.heap[b]? = some (boxR (till k v))) (hk : k < 4) : (w.setCell ⟨b, k, none⟩ (.int .u64 (v k))).heap[b]? = some (boxR (till (k + 1) v)) := by
  unfold boxR at *
  have hs := heap_setCell_same w b k _ _ (.int .u64 (v k)) h
  rw [hs]
  match k with
  | 0 => simp [till]
  | 1 => simp [till]
  | 2 => simp [till]
  | 3 => simp [till]
  | _ + 4 => omega
theorem four_boxes (w : World) (x y : Nat → Int) :
    Below w.heap.size w ((((w.alloc (boxR x)).alloc (boxR y)).alloc (boxR fun _ => 0)).alloc (boxR fun _ => 0)) ∧
    ((((w.alloc (boxR x)).alloc (boxR y)).alloc (boxR fun _ => 0)).alloc (boxR fun _ => 0)).heap.size = w.heap.size + 4 ∧
    ((((w.alloc (boxR x)).alloc (boxR y)).alloc (boxR fun _ => 0)).alloc (boxR fun _ => 0)).heap[w.heap.size]? = some (boxR x) ∧
    ((((w.alloc (boxR x)).alloc (boxR y)).alloc (boxR fun _ => 0)).alloc (boxR fun _ => 0)).heap[w.heap.size + 1]? = some (boxR y) ∧
    ((((w.alloc (boxR x)).alloc (boxR y)).alloc (boxR fun _ => 0)).alloc (boxR fun _ => 0)).heap[w.heap.size + 2]? = some (boxR fun _ => 0) ∧
    ((((w.alloc (boxR x)).alloc (boxR y)).alloc (boxR fun _ => 0)).alloc (boxR fun _ => 0)).heap[w.heap.size + 3]? = some (boxR fun _ => 0) := by
  have s1 : (w.alloc (boxR x)).heap.size = w.heap.size + 1 := World.size_alloc ..
  have s2 : ((w.alloc (boxR x)).alloc (boxR y)).heap.size = w.heap.size + 2 := by rw [World.size_alloc, s1]
  have s3 : (((w.alloc (boxR x)).alloc (boxR y)).alloc (boxR fun _ => 0)).heap.size = w.heap.size + 3 := by rw [World.size_alloc, s2]
  refine ⟨((((Below.refl _ _).alloc (Nat.le_refl _) _).alloc (by omega) _).alloc (by omega) _).alloc (by omega) _, by rw [World.size_alloc, s3], ?_, ?_, ?_, ?_⟩
  · rw [heap_alloc_old _ _ (by omega), heap_alloc_old _ _ (by omega), heap_alloc_old _ _ (by omega)]; exact heap_alloc_new _ _
  · rw [heap_alloc_old _ _ (by omega), heap_alloc_old _ _ (by omega)]
    have := heap_alloc_new (w.alloc (boxR x)) (boxR y); rw [s1] at this; exact this
  · rw [heap_alloc_old _ _ (by omega)]
    have := heap_alloc_new ((w.alloc (boxR x)).alloc (boxR y)) (boxR fun _ => 0); rw [s2] at this; exact this
  · have := heap_alloc_new (((w.alloc (boxR x)).alloc (boxR y)).alloc (boxR fun _ => 0)) (boxR fun _ => 0); rw [s3] at this; exact this
theorem cells4R {w : World} {T : Nat} {x : Nat → Int} (h : w.heap[T]? = some (boxR x)) :
    w.cell? ⟨T, 0, none⟩ = some (.int .u64 (x 0)) ∧ w.cell? ⟨T, 1, none⟩ = some (.int .u64 (x 1)) ∧ w.cell? ⟨T, 2, none⟩ = some (.int .u64 (x 2)) ∧ w.cell? ⟨T, 3, none⟩ = some (.int .u64 (x 3)) ∧
    w.frozen? ⟨T, 0, none⟩ = false ∧ w.frozen? ⟨T, 1, none⟩ = false ∧ w.frozen? ⟨T, 2, none⟩ = false ∧ w.frozen? ⟨T, 3, none⟩ = false :=
  ⟨cell_at h rfl, cell_at h rfl, cell_at h rfl, cell_at h rfl, frozen_at h, frozen_at h, frozen_at h, frozen_at h⟩
theorem set4_boxR {w : World} {T : Nat} {t : Nat → Int} (h : w.heap[T]? = some (boxR t)) (a b c d : Int) :
    (set4 T a b c d w).cell? ⟨T, 0, none⟩ = some (.int .u64 a) ∧ (set4 T a b c d w).cell? ⟨T, 1, none⟩ = some (.int .u64 b) ∧ (set4 T a b c d w).cell? ⟨T, 2, none⟩ = some (.int .u64 c) ∧ (set4 T a b c d w).cell? ⟨T, 3, none⟩ = some (.int .u64 d) := by
  unfold boxR at h
  unfold set4
  have h1 := heap_setCell_same w T 0 _ _ (.int .u64 a) h
  have h2 := heap_setCell_same _ T 1 _ _ (.int .u64 b) h1
  have h3 := heap_setCell_same _ T 2 _ _ (.int .u64 c) h2
  have h4 := heap_setCell_same _ T 3 _ _ (.int .u64 d) h3
  exact ⟨cell_at h4 rfl, cell_at h4 rfl, cell_at h4 rfl, cell_at h4 rfl⟩

/-- What lies in memory in a round. -/
structure SubAt (w0 : World) (H : Nat) (x y v : Nat → Int) (k : Nat) (w : World) : Prop where
  below : Below H w0 w
  big : H + 4 ≤ w.heap.size
  bx : w.heap[H]? = some (boxR x)
  by_ : w.heap[H + 1]? = some (boxR y)
  res : w.heap[H + 2]? = some (boxR fun _ => 0)
  sum : w.heap[H + 3]? = some (boxR (till k v))
theorem SubAt.more {w0 w w' : World} {H k : Nat} {x y v : Nat → Int} (h : SubAt w0 H x y v k w) (hb : Below w.heap.size w w') : SubAt w0 H x y v k w' := by
  have := h.big
  exact ⟨h.below.trans (hb.mono (by omega)), by have := hb.size; omega, (hb.block _ (by omega)).trans h.bx, (hb.block _ (by omega)).trans h.by_, (hb.block _ (by omega)).trans h.res, (hb.block _ (by omega)).trans h.sum⟩
theorem SubAt.set {w0 w : World} {H k : Nat} {x y v : Nat → Int} (h : SubAt w0 H x y v k w) (hk : k < 4) : SubAt w0 H x y v (k + 1) (w.setCell ⟨H + 3, k, none⟩ (.int .u64 (v k))) :=
  ⟨h.below.setCell (p := ⟨H + 3, k, none⟩) (by simp) _, by simpa using h.big, (heap_setCell_other _ _ _ _ (by simp)).trans h.bx, (heap_setCell_other _ _ _ _ (by simp)).trans h.by_, (heap_setCell_other _ _ _ _ (by simp)).trans h.res, till_set h.sum hk⟩

end Go.Proofs.YtbilkeadhflibaaGreatDoor.Vec
