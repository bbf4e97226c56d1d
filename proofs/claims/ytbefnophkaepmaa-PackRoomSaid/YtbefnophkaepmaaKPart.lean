/- What the laws' walks want: demands in memory, Sub and Match of a slot, as the program has them. -/
import Derived.Test.YtbefnophkaepmaaKLawFits
import Derived.Deep.RegionLaw
namespace Go.Proofs.Ytbefnophkaepmaa.Pack
open Go.RowKit Go.Proofs.Ytbefnophkaepmaa.Label Go.Proofs.Ytbefnophkaepmaa.Sel Go.Proofs.Ytbefnophkaepmaa.Vec Go.Proofs.Ytbefnophkaepmaa.Texts

theorem cells4V {w : World} {T : Nat} {x : Nat → Int} (h : w.heap[T]? = some (boxV x)) :
    w.cell? ⟨T, 0, none⟩ = some (.int .u64 (x 0)) ∧ w.cell? ⟨T, 1, none⟩ = some (.int .u64 (x 1)) ∧ w.cell? ⟨T, 2, none⟩ = some (.int .u64 (x 2)) ∧ w.cell? ⟨T, 3, none⟩ = some (.int .u64 (x 3)) ∧
    w.frozen? ⟨T, 0, none⟩ = false ∧ w.frozen? ⟨T, 1, none⟩ = false ∧ w.frozen? ⟨T, 2, none⟩ = false ∧ w.frozen? ⟨T, 3, none⟩ = false :=
  ⟨cell_at h rfl, cell_at h rfl, cell_at h rfl, cell_at h rfl, frozen_at h, frozen_at h, frozen_at h, frozen_at h⟩
theorem set4_heapV {w : World} {T : Nat} {t : Nat → Int} (h : w.heap[T]? = some (boxV t)) (z : Nat → Int) : (set4 T (z 0) (z 1) (z 2) (z 3) w).heap[T]? = some (boxV z) := by
  unfold boxV at *
  unfold set4
  have h1 := heap_setCell_same w T 0 _ _ (.int .u64 (z 0)) h
  have h2 := heap_setCell_same _ T 1 _ _ (.int .u64 (z 1)) h1
  have h3 := heap_setCell_same _ T 2 _ _ (.int .u64 (z 2)) h2
  have h4 := heap_setCell_same _ T 3 _ _ (.int .u64 (z 3)) h3
  rw [h4]
  rfl
theorem vecSub_left (f d : Nat → Int) (hf : InRange f) (hd : InRange d) (w : World) :
    Calls Try.prog 19 #[.agg #[.int .u64 (f 0), .int .u64 (f 1), .int .u64 (f 2), .int .u64 (f 3)], .agg #[.int .u64 (d 0), .int .u64 (d 1), .int .u64 (d 2), .int .u64 (d 3)]] w fun e w' =>
      e = .returned (.tuple #[.agg #[.int .u64 (leftOf f d 0), .int .u64 (leftOf f d 1), .int .u64 (leftOf f d 2), .int .u64 (leftOf f d 3)], .bool (fits4 d f)]) ∧ Below w.heap.size w w' := by
  refine (sub_four f d (fun i => subT (f i) (d i)) (fun i => subB (f i) (d i)) (fun k hk => pure_sub (hf k hk) (hd k hk)) w).mono ?_
  rintro e w' ⟨(⟨h, rfl⟩ | ⟨⟨i, hi, h⟩, rfl⟩), hb⟩
  · have hle : ∀ i, i < 4 → d i ≤ f i := fun i hi => of_decide_eq_true (h i hi)
    have hf4 := fits4_iff.2 hle
    refine ⟨?_, hb⟩
    unfold leftOf
    rw [if_pos hf4, hf4]
    have e0 := hle 0 (by decide)
    have e1 := hle 1 (by decide)
    have e2 := hle 2 (by decide)
    have e3 := hle 3 (by decide)
    simp only [subT, sub4, vec, if_pos e0, if_pos e1, if_pos e2, if_pos e3]
  · have hf4 : fits4 d f = false := by
      cases hc : fits4 d f
      · rfl
      · exact absurd (fits4_iff.1 hc i hi) (of_decide_eq_false h)
    refine ⟨?_, hb⟩
    unfold leftOf
    rw [hf4]
    rfl
theorem match_slot {ts : List Tm} (hf : Sel.Fair ts) {u : Value} {s : Slot} (hs : s.ok) {lv : Value} (w : World) (hu : TRow w u ts) (hl : Row w lv s.labs) :
    Calls Try.prog 18 #[u, lv] w fun e w' => e = .returned (.bool (seen ts s).1) ∧ Below w.heap.size w w' :=
  match_any u ts lv s.labs w hu hf hl (by have := hs.labs; omega)
end Go.Proofs.Ytbefnophkaepmaa.Pack
