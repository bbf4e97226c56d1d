/- What the document's own Total and Check answer of any job (chapter 11); of memory that was there nothing turns. -/
import Derived.Test.YtbilkeadhflibaaGreatDoorYRefG
import Derived.Test.YtbilkeadhflibaaGreatDoorRefPath
import Derived.Test.YtbilkeadhflibaaGreatDoorSRefR
namespace Go.Proofs.YtbilkeadhflibaaGreatDoor.Job
open Go.RowKit Go.Proofs.YtbilkeadhflibaaGreatDoor.Wire Go.Proofs.YtbilkeadhflibaaGreatDoor.Vec Go.Proofs.YtbilkeadhflibaaGreatDoor.Sel

def box9R (p : ByteArray) (a0 a1 a2 a3 n m k : Int) (s : Value) : Obj := .cells #[.string p, .int .u64 a0, .int .u64 a1, .int .u64 a2, .int .u64 a3, .int .i64 n, .int .i64 m, .int .i64 k, s] 33
theorem cells9R {w : World} {T : Nat} {p : ByteArray} {a0 a1 a2 a3 n m k : Int} {s : Value} (h : w.heap[T]? = some (box9R p a0 a1 a2 a3 n m k s)) :
    (w.cell? ⟨T, 0, none⟩ = some (.string p) ∧ w.cell? ⟨T, 1, none⟩ = some (.int .u64 a0) ∧ w.cell? ⟨T, 2, none⟩ = some (.int .u64 a1) ∧ w.cell? ⟨T, 3, none⟩ = some (.int .u64 a2) ∧ w.cell? ⟨T, 4, none⟩ = some (.int .u64 a3) ∧
      w.cell? ⟨T, 5, none⟩ = some (.int .i64 n) ∧ w.cell? ⟨T, 6, none⟩ = some (.int .i64 m) ∧ w.cell? ⟨T, 7, none⟩ = some (.int .i64 k) ∧ w.cell? ⟨T, 8, none⟩ = some s) ∧
    (w.frozen? ⟨T, 0, none⟩ = false ∧ w.frozen? ⟨T, 1, none⟩ = false ∧ w.frozen? ⟨T, 2, none⟩ = false ∧ w.frozen? ⟨T, 3, none⟩ = false ∧ w.frozen? ⟨T, 4, none⟩ = false ∧ w.frozen? ⟨T, 5, none⟩ = false ∧ w.frozen? ⟨T, 6, none⟩ = false ∧ w.frozen? ⟨T, 7, none⟩ = false ∧ w.frozen? ⟨T, 8, none⟩ = false) :=
  ⟨⟨cell_at h rfl, cell_at h rfl, cell_at h rfl, cell_at h rfl, cell_at h rfl, cell_at h rfl, cell_at h rfl, cell_at h rfl, cell_at h rfl⟩,
    ⟨frozen_at h, frozen_at h, frozen_at h, frozen_at h, frozen_at h, frozen_at h, frozen_at h, frozen_at h, frozen_at h⟩⟩

set_option maxRecDepth 100000 in
set_option maxHeartbeats 1000000 in
theorem refTotal9 (p : ByteArray) (a0 a1 a2 a3 n m k N : Int) (hN : IntKind.u64.wrap n = N) (s : Value) (r0 r1 r2 r3 : Int) (b : Bool) (w : World)
    (HT : Hid (∀ W, Calls Tryz.prog 32 #[.agg #[.int .u64 a0, .int .u64 a1, .int .u64 a2, .int .u64 a3], .int .u64 N] W fun e w' => e = .returned (.tuple #[.agg #[.int .u64 r0, .int .u64 r1, .int .u64 r2, .int .u64 r3], .bool b]) ∧ Below W.heap.size W w')) :
    Calls Tryz.prog 12 #[val9 p a0 a1 a2 a3 n m k s] w fun e w' => e = .returned (.tuple #[.agg #[.int .u64 r0, .int .u64 r1, .int .u64 r2, .int .u64 r3], .bool b]) ∧ Below w.heap.size w w' := by
  unfold val9
  go_enter Tryz.func12, Tryz.ntmps12
  go_upto_region 1 with fail
  have h0 := heap_alloc_new (w.alloc (box9R p a0 a1 a2 a3 n m k s)) (boxR fun _ => 0)
  have h1 : ((w.alloc (box9R p a0 a1 a2 a3 n m k s)).alloc (boxR fun _ => 0)).heap[w.heap.size]? = some (box9R p a0 a1 a2 a3 n m k s) := ((grew _ _).block _ (by simp)).trans (heap_alloc_new _ _)
  have hb := grows (grew w (box9R p a0 a1 a2 a3 n m k s)) (grew (w.alloc (box9R p a0 a1 a2 a3 n m k s)) (boxR fun _ => 0))
  rw [World.size_alloc] at h0
  unfold box9R boxR at h0 h1 hb
  generalize (w.alloc (.cells #[.string p, .int .u64 a0, .int .u64 a1, .int .u64 a2, .int .u64 a3, .int .i64 n, .int .i64 m, .int .i64 k, s] 33)).alloc _ = w1 at h0 h1 hb ⊢
  obtain ⟨⟨c0, c1, c2, c3, c4, c5, c6, c7, c8⟩, _⟩ := cells9R h1
  have HB := Lib.hid hb
  have H0 := Lib.hid h0
  clear hb h0 h1
  go_wp2_with fail
  with_reducible refine (HT.out _).mono ?_
  rintro e w2 ⟨rfl, k2⟩
  have hq : w2.heap[w.heap.size + 1]? = some (boxR fun _ => 0) := (k2.block _ (Array.getElem?_eq_some_iff.1 H0.out).1).trans H0.out
  obtain ⟨q0, q1, q2, q3, z0, z1, z2, z3⟩ := cells4R hq
  have HD := Lib.hid (set4_boxR hq r0 r1 r2 r3)
  have HB2 := Lib.hid (set4_below (T := w.heap.size + 1) (a := r0) (b := r1) (c := r2) (d := r3) (grows HB.out k2) (by omega))
  clear hq k2 c0 c1 c2 c3 c4 c5 c6 c7 c8
  go_wp2
  obtain ⟨d0, d1, d2, d3⟩ := HD.out
  unfold set4 at d0 d1 d2 d3
  refine bodyPost_ret (v := .tuple #[.agg #[.int .u64 r0, .int .u64 r1, .int .u64 r2, .int .u64 r3], .bool b]) (by simp [results, Tryz.results12, go_sem, d0, d1, d2, d3]) rfl ?_
  exact ⟨rfl, HB2.out⟩
theorem refTotal_any (x : Jb) (hx : fair4 (dem x)) (s : Value) (w : World) :
    Calls Tryz.prog 12 #[valJ x s] w fun e w' => e = .returned (.tuple #[vecV ((totalJ x).getD (0, 0, 0, 0)), .bool (totalJ x).isSome]) ∧ Below w.heap.size w w' :=
  refTotal9 (path x) (am (dem x) 0) (am (dem x) 1) (am (dem x) 2) (am (dem x) 3) (cou x) (pri x) (tik x) (manyJ x) (manyJ_eq x).symm s _ _ _ _ _ w (Lib.hid fun W => refTimes_any (dem x) hx (manyJ x) (manyJ_lt x) W)
end Go.Proofs.YtbilkeadhflibaaGreatDoor.Job
