/- What disk.Used and Crash answer. -/
import Derived.Test.YtoomanlonhnleaaDDo
namespace Go.Proofs.Ytoomanlonhnleaa.Disk
open Go.RowKit

set_option maxHeartbeats 2000000 in
theorem used_any (v : Dk) (hv : used v ≤ 4611686018427387904) (w : World) : Calls Try.prog 22 #[valD v] w fun e w' => e = .returned (.int .i64 (used v)) ∧ Below w.heap.size w w' := by
  obtain ⟨sz, ⟨a0, b0⟩, ⟨a1, b1⟩, dn, fu, kp⟩ := v
  unfold used Fl.size at hv ⊢
  unfold valD cellsD
  dsimp only at hv ⊢
  have i0 := idx0 (.string a0) (.string b0) (.string a1) (.string b1)
  have i1 := idx1 (.string a0) (.string b0) (.string a1) (.string b1)
  go_enter Try.func22, Try.ntmps22
  go_wp2
  go_loopw [2, 7] (fun t i wr => ∃ k : Nat, k ≤ 2 ∧ i = .int .i64 k ∧ t = .int .i64 (if k = 0 then 0 else if k = 1 then ((a0.size : Int) + b0.size) else (a0.size : Int) + b0.size + (a1.size + b1.size)) ∧ Below w.heap.size w wr) (fun _ i _ => 3 - (intOf i).toNat)
  case atStart => exact ⟨0, by omega, rfl, rfl, Boxes.old _ _⟩
  case round =>
    obtain ⟨k, hk, rfl, rfl, hB⟩ := hrel
    have hk' : k = 0 ∨ k = 1 ∨ k = 2 := by omega
    rcases hk' with rfl | rfl | rfl
    · simp only [if_true]
      go_wp2
      go_roundw
      case rel => exact ⟨1, by omega, by go_num, by simp, hB.alloc hB.size _⟩
      case measure => simp [intOf]
    · simp only [if_true]
      go_wp2
      go_roundw
      case rel => exact ⟨2, by omega, by go_num, by simp, hB.alloc hB.size _⟩
      case measure => simp [intOf]
    · go_wp2
      go_ret
      exact ⟨by simp, hB⟩
/-- Eight values stored into one block. -/
theorem set8_box {w : World} {b : Nat} {x0 x1 x2 x3 x4 x5 x6 x7 : Value} {t : TypeId} (h : w.heap[b]? = some (.cells #[x0, x1, x2, x3, x4, x5, x6, x7] t)) (v0 v1 v2 v3 v4 v5 v6 v7 : Value) :
    ((((((((w.setCell ⟨b, 0, none⟩ v0).setCell ⟨b, 1, none⟩ v1).setCell ⟨b, 2, none⟩ v2).setCell ⟨b, 3, none⟩ v3).setCell ⟨b, 4, none⟩ v4).setCell ⟨b, 5, none⟩ v5).setCell ⟨b, 6, none⟩ v6).setCell ⟨b, 7, none⟩ v7).heap[b]? = some (.cells #[v0, v1, v2, v3, v4, v5, v6, v7] t) := by
  have h0 : _ = some (Obj.cells #[v0, x1, x2, x3, x4, x5, x6, x7] t) := heap_setCell_same w b 0 _ _ v0 h
  have h1 : _ = some (Obj.cells #[v0, v1, x2, x3, x4, x5, x6, x7] t) := heap_setCell_same _ b 1 _ _ v1 h0
  have h2 : _ = some (Obj.cells #[v0, v1, v2, x3, x4, x5, x6, x7] t) := heap_setCell_same _ b 2 _ _ v2 h1
  have h3 : _ = some (Obj.cells #[v0, v1, v2, v3, x4, x5, x6, x7] t) := heap_setCell_same _ b 3 _ _ v3 h2
  have h4 : _ = some (Obj.cells #[v0, v1, v2, v3, v4, x5, x6, x7] t) := heap_setCell_same _ b 4 _ _ v4 h3
  have h5 : _ = some (Obj.cells #[v0, v1, v2, v3, v4, v5, x6, x7] t) := heap_setCell_same _ b 5 _ _ v5 h4
  have h6 : _ = some (Obj.cells #[v0, v1, v2, v3, v4, v5, v6, x7] t) := heap_setCell_same _ b 6 _ _ v6 h5
  exact heap_setCell_same _ b 7 _ _ v7 h6
/-- Two of eight. -/
theorem set1of8 {w : World} {b : Nat} {x0 x1 x2 x3 x4 x5 x6 x7 : Value} {t : TypeId} (h : w.heap[b]? = some (.cells #[x0, x1, x2, x3, x4, x5, x6, x7] t)) (u v : Value) :
    ((w.setCell ⟨b, 1, none⟩ u).setCell ⟨b, 2, none⟩ v).heap[b]? = some (.cells #[x0, u, v, x3, x4, x5, x6, x7] t) := heap_setCell_same _ b 2 _ _ v (heap_setCell_same w b 1 _ _ u h)
theorem set3of8 {w : World} {b : Nat} {x0 x1 x2 x3 x4 x5 x6 x7 : Value} {t : TypeId} (h : w.heap[b]? = some (.cells #[x0, x1, x2, x3, x4, x5, x6, x7] t)) (u v : Value) :
    ((w.setCell ⟨b, 3, none⟩ u).setCell ⟨b, 4, none⟩ v).heap[b]? = some (.cells #[x0, x1, x2, u, v, x5, x6, x7] t) := heap_setCell_same _ b 4 _ _ v (heap_setCell_same w b 3 _ _ u h)
theorem set5of8 {w : World} {b : Nat} {x0 x1 x2 x3 x4 x5 x6 x7 : Value} {t : TypeId} (h : w.heap[b]? = some (.cells #[x0, x1, x2, x3, x4, x5, x6, x7] t)) (u v : Value) :
    ((w.setCell ⟨b, 5, none⟩ u).setCell ⟨b, 6, none⟩ v).heap[b]? = some (.cells #[x0, x1, x2, x3, x4, u, v, x7] t) := heap_setCell_same _ b 6 _ _ v (heap_setCell_same w b 5 _ _ u h)
theorem other2 {w : World} {b c : Nat} (i j : Nat) (u v : Value) (h : c ≠ b) : ((w.setCell ⟨b, i, none⟩ u).setCell ⟨b, j, none⟩ v).heap[c]? = w.heap[c]? := by
  rw [heap_setCell_other _ _ _ _ h, heap_setCell_other _ _ _ _ h]
/-- A new disk's cells. -/
def noneD : Array Value := #[.int .i64 0, .string ⟨#[]⟩, .string ⟨#[]⟩, .string ⟨#[]⟩, .string ⟨#[]⟩, .bool false, .int .i64 0, .int .i64 0]
set_option maxHeartbeats 4000000 in
theorem crash_any (v : Dk) (hv : used v ≤ 4611686018427387904) (keep : Int) (w : World) : Calls Try.prog 16 #[valD v, .int .i64 keep] w fun e w' => e = .returned (valD (crash v keep)) ∧ Below w.heap.size w w' := by
  have H0 := Lib.hid (harden_any v.f0 (by unfold used at hv; omega) keep)
  have H1 := Lib.hid (harden_any v.f1 (by unfold used at hv; omega) keep)
  unfold crash
  obtain ⟨y0, hy0⟩ : ∃ y, v.f0.lose keep = y := ⟨_, rfl⟩
  obtain ⟨y1, hy1⟩ : ∃ y, v.f1.lose keep = y := ⟨_, rfl⟩
  rw [hy0] at H0 ⊢
  rw [hy1] at H1 ⊢
  clear hy0 hy1 hv
  obtain ⟨c0, d0⟩ := y0
  obtain ⟨c1, d1⟩ := y1
  obtain ⟨sz, ⟨a0, b0⟩, ⟨a1, b1⟩, dn, fu, kp⟩ := v
  unfold valF at H0 H1
  unfold valD cellsD
  dsimp only at H0 H1 ⊢
  have i0 := idx0 (.string a0) (.string b0) (.string a1) (.string b1)
  have i1 := idx1 (.string a0) (.string b0) (.string a1) (.string b1)
  go_enter Try.func16, Try.ntmps16
  go_wp2
  go_loopw [9] (fun i wr => ∃ k : Nat, k ≤ 2 ∧ i = .int .i64 k ∧ wr.heap[w.heap.size]? = some (.cells #[.int .i64 sz, .string (if k = 0 then a0 else c0), .string (if k = 0 then b0 else d0), .string (if k = 2 then c1 else a1), .string (if k = 2 then d1 else b1), .bool dn, .int .i64 fu, .int .i64 kp] 26) ∧
      wr.heap[w.heap.size + 1]? = some (.cells noneD 26) ∧ Below w.heap.size w wr) (fun i _ => 3 - (intOf i).toNat)
  case atStart => exact ⟨0, by omega, rfl, Boxes.keep (Boxes.fresh _ _) (Boxes.old _ _), Boxes.fresh1 _ _ _, (Boxes.old _ _).trans ((Boxes.old _ _).mono (Boxes.old _ _).size)⟩
  case round =>
    obtain ⟨k, hk, rfl, hD, hR, hB⟩ := hrel
    have hk' : k = 0 ∨ k = 1 ∨ k = 2 := by omega
    rcases hk' with rfl | rfl | rfl
    · simp only [if_true, if_neg (show ¬ (0 : Nat) = 2 by decide)] at hD
      go_wp2_with fail
      refine (H0.out _).mono ?_
      rintro e w1 ⟨rfl, hw⟩
      have hlt := Boxes.lt_of hD
      have hD1 := Boxes.keep (Boxes.keep hD (Boxes.old _ _)) hw
      have hR1 := Boxes.keep (Boxes.keep hR (Boxes.old _ _)) hw
      have hB1 := (hB.alloc hB.size _).trans (hw.mono (hB.alloc hB.size _).size)
      have hD2 := set1of8 hD1 (.string c0) (.string d0)
      have hR2 := (other2 (w := w1) (b := w.heap.size) (c := w.heap.size + 1) 1 2 (.string c0) (.string d0) (by omega)).trans hR1
      obtain ⟨_, t1, t2, _⟩ := cells8 hD1
      have hf := thaw hD1
      clear hD hR hw
      go_wp2
      go_roundw
      case rel => exact ⟨1, by omega, by go_num, hD2, hR2, (hB1.setCell (Nat.le_refl _) _).setCell (Nat.le_refl _) _⟩
      case measure => simp [intOf]
    · simp only [if_neg (show ¬ (1 : Nat) = 0 by decide), if_neg (show ¬ (1 : Nat) = 2 by decide)] at hD
      go_wp2_with fail
      refine (H1.out _).mono ?_
      rintro e w1 ⟨rfl, hw⟩
      have hlt := Boxes.lt_of hD
      have hD1 := Boxes.keep (Boxes.keep hD (Boxes.old _ _)) hw
      have hR1 := Boxes.keep (Boxes.keep hR (Boxes.old _ _)) hw
      have hB1 := (hB.alloc hB.size _).trans (hw.mono (hB.alloc hB.size _).size)
      have hD2 := set3of8 hD1 (.string c1) (.string d1)
      have hR2 := (other2 (w := w1) (b := w.heap.size) (c := w.heap.size + 1) 3 4 (.string c1) (.string d1) (by omega)).trans hR1
      obtain ⟨_, _, _, t1, t2, _⟩ := cells8 hD1
      have hf := thaw hD1
      clear hD hR hw
      go_wp2
      go_roundw
      case rel => exact ⟨2, by omega, by go_num, hD2, hR2, (hB1.setCell (Nat.le_refl _) _).setCell (Nat.le_refl _) _⟩
      case measure => simp [intOf]
    · simp only [if_neg (show ¬ (2 : Nat) = 0 by decide), if_true] at hD
      have hD2 := set5of8 hD (.bool true) (.int .i64 (-1))
      have hR2 := (other2 (w := wr) (b := w.heap.size) (c := w.heap.size + 1) 5 6 (.bool true) (.int .i64 (-1)) (by omega)).trans hR
      have hE := set8_box hR2 (.int .i64 sz) (.string c0) (.string d0) (.string c1) (.string d1) (.bool true) (.int .i64 (-1)) (.int .i64 kp)
      obtain ⟨e0, e1, e2, e3, e4, e5, e6, e7⟩ := cells8 hE
      obtain ⟨t0, t1, t2, t3, t4, t5, t6, t7⟩ := cells8 hD
      obtain ⟨r0, r1, r2, r3, r4, r5, r6, r7⟩ := cells8 hR
      have hf := thaw hD
      have hg := thaw hR
      have hB2 := ((((((((((hB.setCell (p := ⟨w.heap.size, 5, none⟩) (Nat.le_refl _) (.bool true)).setCell (p := ⟨w.heap.size, 6, none⟩) (Nat.le_refl _) (.int .i64 (-1))).setCell (p := ⟨w.heap.size + 1, 0, none⟩) (Nat.le_succ _) (.int .i64 sz)).setCell (p := ⟨w.heap.size + 1, 1, none⟩) (Nat.le_succ _) (.string c0)).setCell (p := ⟨w.heap.size + 1, 2, none⟩) (Nat.le_succ _) (.string d0)).setCell (p := ⟨w.heap.size + 1, 3, none⟩) (Nat.le_succ _) (.string c1)).setCell (p := ⟨w.heap.size + 1, 4, none⟩) (Nat.le_succ _) (.string d1)).setCell (p := ⟨w.heap.size + 1, 5, none⟩) (Nat.le_succ _) (.bool true)).setCell (p := ⟨w.heap.size + 1, 6, none⟩) (Nat.le_succ _) (.int .i64 (-1))).setCell (p := ⟨w.heap.size + 1, 7, none⟩) (Nat.le_succ _) (.int .i64 kp))
      clear hD2 hR2 hE hD hR
      go_wp2
      refine bodyPost_ret (v := .agg #[.int .i64 sz, .string c0, .string d0, .string c1, .string d1, .bool true, .int .i64 (-1), .int .i64 kp]) (by simp [results, Try.results16, go_sem, e0, e1, e2, e3, e4, e5, e6, e7]) rfl ⟨rfl, hB2⟩
end Go.Proofs.Ytoomanlonhnleaa.Disk
