/- What the program's two questions of a slot answer (chapter 13): does the selector match it, and the other way round; of memory that was there nothing turns. -/
import Derived.Test.YtbefnophkaepmaaKFilt
import Derived.Test.YtbefnophkaepmaaKPart
namespace Go.Proofs.Ytbefnophkaepmaa.Pack
open Go.RowKit Go.Proofs.Ytbefnophkaepmaa.Label Go.Proofs.Ytbefnophkaepmaa.Sel Go.Proofs.Ytbefnophkaepmaa.Vec Go.Proofs.Ytbefnophkaepmaa.Texts

/-- A slot by value, and in a block of its own. -/
def valS (s : Slot) (lv : Value) : Value := .agg #[.string s.node, .int .u64 (s.free 0), .int .u64 (s.free 1), .int .u64 (s.free 2), .int .u64 (s.free 3), lv]
def boxS (s : Slot) (lv : Value) : Obj := .cells #[.string s.node, .int .u64 (s.free 0), .int .u64 (s.free 1), .int .u64 (s.free 2), .int .u64 (s.free 3), lv] 47
theorem cellsB {w : World} {b : Nat} {s : Slot} {lv : Value} (h : w.heap[b]? = some (boxS s lv)) :
    w.cell? ⟨b, 0, none⟩ = some (.string s.node) ∧ w.cell? ⟨b, 1, none⟩ = some (.int .u64 (s.free 0)) ∧ w.cell? ⟨b, 2, none⟩ = some (.int .u64 (s.free 1)) ∧ w.cell? ⟨b, 3, none⟩ = some (.int .u64 (s.free 2)) ∧ w.cell? ⟨b, 4, none⟩ = some (.int .u64 (s.free 3)) ∧ w.cell? ⟨b, 5, none⟩ = some lv :=
  ⟨cell_at h rfl, cell_at h rfl, cell_at h rfl, cell_at h rfl, cell_at h rfl, cell_at h rfl⟩

set_option maxHeartbeats 1000000 in
set_option maxRecDepth 100000 in
theorem match1_any {ts : List Tm} (hf : Sel.Fair ts) {u : Value} {s : Slot} (hs : s.ok) {lv : Value} {c : Nat} (w : World) (hc : w.cell? ⟨c, 0, none⟩ = some u) (hcl : c < w.heap.size) (hu : TRow w u ts) (hl : Row w lv s.labs) :
    Calls Try.prog 39 #[valS s lv, .pointer (some ⟨c, 0, none⟩)] w fun e w' => e = .returned (.bool (fit1 ts s)) ∧ Below w.heap.size w w' := by
  obtain ⟨ua, uc, rfl, _, _⟩ := hu.slice
  obtain ⟨la, lc, rfl⟩ := Label.Row.slice hl
  obtain ⟨W, hW⟩ : ∃ W, W = w.alloc (boxS s (.slice la s.labs.length lc)) := ⟨_, rfl⟩
  have hwW : Below w.heap.size w W := by rw [hW]; exact (Below.refl _ _).alloc (Nat.le_refl _) _
  have hb : W.heap[w.heap.size]? = some (boxS s (.slice la s.labs.length lc)) := by rw [hW]; exact heap_alloc_new _ _
  obtain ⟨b0, b1, b2, b3, b4, b5⟩ := cellsB hb
  have c0 := (hwW.cell (p := ⟨c, 0, none⟩) hcl).trans hc
  have HM := Lib.hid (match_slot hf hs W (hu.below hwW) (hl.below hwW))
  have HB := Lib.hid hwW
  have HW := Lib.hid hW
  unfold boxS at HW
  unfold valS
  clear hc hu hl hW hb hwW b0 b1 b2 b3 b4
  go_enter Try.func39, Try.ntmps39
  go_upto_region 1 with fail
  rw [← HW.out]
  clear HW
  go_wp2_with fail
  (with_reducible refine HM.out.mono ?_)
  rintro _ wq ⟨rfl, hbq⟩
  go_wp2
  go_ret
  exact ⟨rfl, HB.out.trans (hbq.mono HB.out.size)⟩

theorem enters_match (args : Array Value) (w : World) : (callFunc 39 args).run Try.prog w = .ok (.enter 39 args) w := by kernel_rfl

set_option maxHeartbeats 1000000 in
set_option maxRecDepth 100000 in
theorem lacks1_any {ts : List Tm} (hf : Sel.Fair ts) {u : Value} {s : Slot} (hs : s.ok) {lv : Value} {c m : Nat} (w : World) (hm : w.cell? ⟨m, 0, none⟩ = some (.func (.func 39) #[] #[.pointer (some ⟨c, 0, none⟩)])) (hml : m < w.heap.size) (hc : w.cell? ⟨c, 0, none⟩ = some u) (hcl : c < w.heap.size) (hu : TRow w u ts) (hl : Row w lv s.labs) :
    Calls Try.prog 25 #[valS s lv, .pointer (some ⟨m, 0, none⟩)] w fun e w' => e = .returned (.bool (!fit1 ts s)) ∧ Below w.heap.size w w' := by
  obtain ⟨la, lc, rfl⟩ := Label.Row.slice hl
  obtain ⟨W, hW⟩ : ∃ W, W = w.alloc (boxS s (.slice la s.labs.length lc)) := ⟨_, rfl⟩
  have hwW : Below w.heap.size w W := by rw [hW]; exact (Below.refl _ _).alloc (Nat.le_refl _) _
  have hb : W.heap[w.heap.size]? = some (boxS s (.slice la s.labs.length lc)) := by rw [hW]; exact heap_alloc_new _ _
  obtain ⟨b0, b1, b2, b3, b4, b5⟩ := cellsB hb
  have c0 := (hwW.cell (p := ⟨c, 0, none⟩) hcl).trans hc
  have m0 := (hwW.cell (p := ⟨m, 0, none⟩) hml).trans hm
  have HM := Lib.hid (match1_any hf hs W c0 (by have := hwW.size; omega) (hu.below hwW) (hl.below hwW))
  have HB := Lib.hid hwW
  have HW := Lib.hid hW
  have hen := enters_match
  unfold boxS at HW
  unfold valS at *
  clear hc hu hl hW hb hwW c0 hm
  go_enter Try.func25, Try.ntmps25
  go_upto_region 1 with fail
  rw [← HW.out]
  clear HW
  go_wp2_with fail
  (with_reducible refine HM.out.mono ?_)
  rintro _ wq ⟨rfl, hbq⟩
  go_wp2
  go_ret
  exact ⟨rfl, HB.out.trans (hbq.mono HB.out.size)⟩
theorem enters_lacks (args : Array Value) (w : World) : (callFunc 25 args).run Try.prog w = .ok (.enter 25 args) w := by kernel_rfl
end Go.Proofs.Ytbefnophkaepmaa.Pack
