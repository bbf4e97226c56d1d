/- What sel.Parse and sel.Get defer: behind a panic the answers become nothing and false; else they stay. -/
import Derived.Test.YtcgknkbigbbfdaaDoorSTermV
import Derived.Defers
import Derived.Recover
namespace Go.Proofs.YtcgknkbigbbfdaaDoor.Sel
open Go.RowKit Go.Proofs.YtcgknkbigbbfdaaDoor.Boxes

set_option maxRecDepth 100000 in
set_option maxHeartbeats 1000000 in
theorem parse_catch (H : Nat) (x y pv : Value) (T : TypeId) (older : List PanicEntry) (w : World) (h0 : w.heap[H]? = some (.cells #[x] 22)) (h1 : w.heap[H + 1]? = some (.cells #[y] 4)) :
    CallsD Tryd.prog 33 #[.pointer (some ⟨H, 0, none⟩), .pointer (some ⟨H + 1, 0, none⟩)] (.panicking ({ v := .iface T pv, recovered := false } :: older)) w fun e u' w' =>
      e = .returned (.tuple #[]) ∧ u' = .panicking ({ v := .iface T pv, recovered := true } :: older) ∧ w' = (w.setCell ⟨H, 0, none⟩ (.slice none 0 0)).setCell ⟨H + 1, 0, none⟩ (.bool false) := by
  have c0 := cell_at (i := 0) h0 rfl
  have f0 := frozen_at (i := 0) h0
  have g1 := cell_at (i := 0) ((heap_setCell_other w ⟨H, 0, none⟩ (H + 1) (.slice none 0 0) (by simp)).trans h1) rfl
  have k1 := frozen_at (i := 0) ((heap_setCell_other w ⟨H, 0, none⟩ (H + 1) (.slice none 0 0) (by simp)).trans h1)
  clear h0 h1
  refine callsD_of_wpS Tryd.func33 rfl fun c₀ cs hu => ?_
  apply wpS_seq
  apply wpS_region
  simp [wpOpsS, go_sem, recoverD, hu, Tryd.ntmps33, Exit.thenS]
  refine wpS_cond (t := true) (by simp [Act.eval, Array.replicate]) ?_
  simp only [if_true]
  apply wpS_region
  simp [wpOpsS, go_sem, c0, f0, g1, k1, bodyPostS, results, Tryd.results33]
set_option maxRecDepth 100000 in
set_option maxHeartbeats 1000000 in
theorem parse_idle (p q : Addr) (w : World) :
    CallsD Tryd.prog 33 #[.pointer (some p), .pointer (some q)] .returning w fun e u' w' => e = .returned (.tuple #[]) ∧ u' = .returning ∧ w' = w := by
  refine callsD_of_wpS Tryd.func33 rfl fun c₀ cs hu => ?_
  apply wpS_seq
  apply wpS_region
  simp [wpOpsS, go_sem, recoverD, hu, Tryd.ntmps33, Exit.thenS]
  refine wpS_cond (t := false) (by simp [Act.eval, Array.replicate]) ?_
  simp only [Bool.false_eq_true, if_false]
  refine wpS_of_wp (wp_skip ?_)
  cases c₀
  simp_all [bodyPostS, results, Tryd.results33]

set_option maxRecDepth 100000 in
set_option maxHeartbeats 1000000 in
theorem get_catch (H : Nat) (x y z pv : Value) (T : TypeId) (older : List PanicEntry) (w : World) (h0 : w.heap[H]? = some (.cells #[x] 22)) (h1 : w.heap[H + 1]? = some (.cells #[y] 3)) (h2 : w.heap[H + 2]? = some (.cells #[z] 4)) :
    CallsD Tryd.prog 28 #[.pointer (some ⟨H, 0, none⟩), .pointer (some ⟨H + 1, 0, none⟩), .pointer (some ⟨H + 2, 0, none⟩)] (.panicking ({ v := .iface T pv, recovered := false } :: older)) w fun e u' w' =>
      e = .returned (.tuple #[]) ∧ u' = .panicking ({ v := .iface T pv, recovered := true } :: older) ∧ w' = ((w.setCell ⟨H, 0, none⟩ (.slice none 0 0)).setCell ⟨H + 1, 0, none⟩ (.int .i64 0)).setCell ⟨H + 2, 0, none⟩ (.bool false) := by
  have c0 := cell_at (i := 0) h0 rfl
  have f0 := frozen_at (i := 0) h0
  have h1' := (heap_setCell_other w ⟨H, 0, none⟩ (H + 1) (.slice none 0 0) (by simp)).trans h1
  have g1 := cell_at (i := 0) h1' rfl
  have k1 := frozen_at (i := 0) h1'
  have h2' := (heap_setCell_other (w.setCell ⟨H, 0, none⟩ (.slice none 0 0)) ⟨H + 1, 0, none⟩ (H + 2) (.int .i64 0) (by simp)).trans ((heap_setCell_other w ⟨H, 0, none⟩ (H + 2) (.slice none 0 0) (by simp)).trans h2)
  have g2 := cell_at (i := 0) h2' rfl
  have k2 := frozen_at (i := 0) h2'
  clear h0 h1 h2 h1' h2'
  refine callsD_of_wpS Tryd.func28 rfl fun c₀ cs hu => ?_
  apply wpS_seq
  apply wpS_region
  simp [wpOpsS, go_sem, recoverD, hu, Tryd.ntmps28, Exit.thenS]
  refine wpS_cond (t := true) (by simp [Act.eval, Array.replicate]) ?_
  simp only [if_true]
  apply wpS_region
  simp [wpOpsS, go_sem, c0, f0, g1, k1, g2, k2, bodyPostS, results, Tryd.results28]
set_option maxRecDepth 100000 in
set_option maxHeartbeats 1000000 in
theorem get_idle (p q r : Addr) (w : World) :
    CallsD Tryd.prog 28 #[.pointer (some p), .pointer (some q), .pointer (some r)] .returning w fun e u' w' => e = .returned (.tuple #[]) ∧ u' = .returning ∧ w' = w := by
  refine callsD_of_wpS Tryd.func28 rfl fun c₀ cs hu => ?_
  apply wpS_seq
  apply wpS_region
  simp [wpOpsS, go_sem, recoverD, hu, Tryd.ntmps28, Exit.thenS]
  refine wpS_cond (t := false) (by simp [Act.eval, Array.replicate]) ?_
  simp only [Bool.false_eq_true, if_false]
  refine wpS_of_wp (wp_skip ?_)
  cases c₀
  simp_all [bodyPostS, results, Tryd.results28]
end Go.Proofs.YtcgknkbigbbfdaaDoor.Sel
