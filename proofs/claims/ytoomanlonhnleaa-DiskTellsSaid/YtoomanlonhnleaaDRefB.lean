/- What the document's own Crash and burnt make of a disk (demesneref09), and the law's refD. -/
import Derived.Test.YtoomanlonhnleaaDRefA
import Derived.Test.YtoomanlonhnleaaDRunM
import Derived.Deep.DeepCutAuto
namespace Go.Proofs.Ytoomanlonhnleaa.Disk
open Go.RowKit

abbrev boxR (d : Dk) : Obj := .cells (cellsD d) 31
abbrev zeroR : Obj := .cells #[.int .i64 0, .string ⟨#[]⟩, .string ⟨#[]⟩, .string ⟨#[]⟩, .string ⟨#[]⟩, .bool false, .int .i64 0, .int .i64 0] 31
/-- The first bytes, by the limits on the way. -/
theorem clip_lim (al : ByteArray) (n : Int) : ∃ m1 m2 : Int, ((n < 0 ∧ m1 = 0) ∨ (0 ≤ n ∧ m1 = n)) ∧ ((m1 ≤ al.size ∧ m2 = m1) ∨ ((al.size : Int) ≤ m1 ∧ m2 = al.size)) ∧ 0 ≤ m2 ∧ m2 ≤ al.size ∧ clip n al = al.extract 0 m2.toNat := by
  refine ⟨if n < 0 then 0 else n, ((min n.toNat al.size : Nat) : Int), ?_, ?_, by omega, by omega, by rw [Int.toNat_natCast]; rfl⟩
  · by_cases h : n < 0
    · rw [if_pos h]; exact .inl ⟨h, rfl⟩
    · rw [if_neg h]; exact .inr ⟨by omega, rfl⟩
  · by_cases h : n < 0
    · rw [if_pos h]; exact .inl ⟨by omega, by omega⟩
    · rw [if_neg h]
      by_cases k : n ≤ al.size
      · exact .inl ⟨k, by omega⟩
      · exact .inr ⟨by omega, by omega⟩
theorem set1hs {w : World} {b : Nat} {x0 x1 x2 x3 x4 x5 x6 x7 : Value} {t : TypeId} (h : w.heap[b]? = some (.cells #[x0, x1, x2, x3, x4, x5, x6, x7] t)) (u v : Value) :
    ((w.setCell ⟨b, 1, none⟩ u).setCell ⟨b, 2, none⟩ v).heap[b]? = some (.cells #[x0, u, v, x3, x4, x5, x6, x7] t) := set1of8 h u v
set_option maxRecDepth 100000 in
set_option maxHeartbeats 2000000 in
theorem crash_ref (v : Dk) (hv : used v ≤ 4611686018427387904) (keep : Int) (w : World) : Calls Try.prog 17 #[valD v, .int .i64 keep] w fun e w' => e = .returned (valD (crash v keep)) ∧ Below w.heap.size w w' := by
  obtain ⟨sz, ⟨a0, b0⟩, ⟨a1, b1⟩, dn, fu, kp⟩ := v
  unfold used Fl.size at hv
  unfold valD cellsD crash Fl.lose
  dsimp only at hv ⊢
  obtain ⟨m0, l0, p0, q0, r0, s0, t0⟩ := clip_lim b0 keep
  obtain ⟨m1, l1, p1, q1, r1, s1, t1⟩ := clip_lim b1 keep
  have mx0 := max_run keep 0 m0 (by omega)
  have mn0 := min_run m0 b0.size l0 (by omega)
  have mx1 := max_run keep 0 m1 (by omega)
  have mn1 := min_run m1 b1.size l1 (by omega)
  rw [t0, t1]
  have z0 : ¬ 9223372036854775807 < a0.size + (b0.extract 0 l0.toNat).size := by rw [ByteArray.size_extract]; omega
  have z1 : ¬ 9223372036854775807 < a1.size + (b1.extract 0 l1.toNat).size := by rw [ByteArray.size_extract]; omega
  obtain ⟨c0, hc0⟩ : ∃ c, b0.extract 0 l0.toNat = c := ⟨_, rfl⟩
  obtain ⟨c1, hc1⟩ : ∃ c, b1.extract 0 l1.toNat = c := ⟨_, rfl⟩
  rw [hc0] at z0 ⊢
  rw [hc1] at z1 ⊢
  have HC0 := Lib.hid hc0
  have HC1 := Lib.hid hc1
  clear t0 t1 p0 q0 p1 q1 hv hc0 hc1
  go_enter Try.func17, Try.ntmps17
  go_wp2
  go_loopw [5] (fun i wr => ∃ k : Nat, k ≤ 2 ∧ i = .int .i64 k ∧ wr.heap[w.heap.size]? = some (.cells #[.int .i64 sz, .string (if k = 0 then a0 else a0 ++ c0), .string (if k = 0 then b0 else ⟨#[]⟩), .string (if k = 2 then a1 ++ c1 else a1), .string (if k = 2 then ⟨#[]⟩ else b1), .bool dn, .int .i64 fu, .int .i64 kp] 31) ∧
      wr.heap[w.heap.size + 1]? = some zeroR ∧ Below w.heap.size w wr) (fun i _ => 3 - (intOf i).toNat)
  case atStart => exact ⟨0, by omega, rfl, Boxes.keep (Boxes.fresh _ _) (Boxes.old _ _), Boxes.fresh1 _ _ _, (Boxes.old _ _).trans ((Boxes.old _ _).mono (Boxes.old _ _).size)⟩
  case round =>
    obtain ⟨k, hk, rfl, hD, hR, hB⟩ := hrel
    have hk' : k = 0 ∨ k = 1 ∨ k = 2 := by omega
    rcases hk' with rfl | rfl | rfl
    · clear mx1 mn1
      simp only [if_true, if_neg (show ¬ (0 : Nat) = 2 by decide)] at hD
      obtain ⟨_, d1, d2, d3, d4, _, _, _⟩ := cells8 hD
      have hf := thaw hD
      have hDd : wr.drew.heap[w.heap.size]? = some (.cells #[.int .i64 sz, .string a0, .string b0, .string a1, .string b1, .bool dn, .int .i64 fu, .int .i64 kp] 31) := hD
      have e1 : wr.drew.cell? ⟨w.heap.size, 1, none⟩ = some (.string a0) := d1
      go_upto_region 5 with fail
      refine Late.start (m := 17) (S := fun x => x.cell? ⟨w.heap.size, 1, none⟩ = some (.string a0)) (by kernel_rfl) e1 (fun hHeld => ?_)
      have hc0 := HC0.out
      (refine Late.take (i := 0) (v := ?_) rfl (by kernel_rfl) (by kernel_rfl) (by kernel_rfl) (by kernel_rfl) (by kernel_rfl) (fun _ _ _ h => h) (Or.inl ⟨by rfl, ?_⟩) hHeld ?_; rotate_left; focus (intro w hSw; (try dsimp only at hSw); go_simp; try with_reducible rfl))
      (refine Late.take (i := 1) (v := ?_) rfl (by kernel_rfl) (by kernel_rfl) (by kernel_rfl) (by kernel_rfl) (by kernel_rfl) (fun _ _ _ h => h) (Or.inl ⟨by rfl, ?_⟩) hHeld ?_; rotate_left; focus (intro w hSw; (try dsimp only at hSw); go_simp; try with_reducible rfl))
      (refine Late.take (i := 2) (v := ?_) rfl (by kernel_rfl) (by kernel_rfl) (by kernel_rfl) (by kernel_rfl) (by kernel_rfl) (fun _ _ _ h => h) (Or.inl ⟨by rfl, ?_⟩) hHeld ?_; rotate_left; focus (intro w hSw; (try dsimp only at hSw); go_simp; try with_reducible rfl))
      (refine Late.take (i := 3) (v := ?_) rfl (by kernel_rfl) (by kernel_rfl) (by kernel_rfl) (by kernel_rfl) (by kernel_rfl) (fun _ _ _ h => h) (Or.inl ⟨by rfl, ?_⟩) hHeld ?_; rotate_left; focus (intro w hSw; (try dsimp only at hSw); go_simp; try with_reducible rfl))
      (refine Late.take (i := 4) (v := ?_) rfl (by kernel_rfl) (by kernel_rfl) (by kernel_rfl) (by kernel_rfl) (by kernel_rfl) (fun _ _ _ h => h) (Or.inl ⟨by rfl, ?_⟩) hHeld ?_; rotate_left; focus (intro w hSw; (try dsimp only at hSw); go_simp; try with_reducible rfl))
      (refine Late.take (i := 5) (v := ?_) rfl (by kernel_rfl) (by kernel_rfl) (by kernel_rfl) (by kernel_rfl) (by kernel_rfl) (fun _ _ _ h => h) (Or.inl ⟨by rfl, ?_⟩) hHeld ?_; rotate_left; focus (intro w hSw; (try dsimp only at hSw); go_simp; try with_reducible rfl))
      (refine Late.take (i := 6) (v := ?_) rfl (by kernel_rfl) (by kernel_rfl) (by kernel_rfl) (by kernel_rfl) (by kernel_rfl) (fun _ _ _ h => h) (Or.inl ⟨by rfl, ?_⟩) hHeld ?_; rotate_left; focus (intro w hSw; (try dsimp only at hSw); go_simp; try with_reducible rfl))
      (refine Late.take (i := 7) (v := ?_) rfl (by kernel_rfl) (by kernel_rfl) (by kernel_rfl) (by kernel_rfl) (by kernel_rfl) (fun _ _ _ h => h) (Or.inl ⟨by rfl, ?_⟩) hHeld ?_; rotate_left; focus (intro w hSw; (try dsimp only at hSw); go_simp; try with_reducible rfl))
      (refine Late.take (i := 8) (v := ?_) rfl (by kernel_rfl) (by kernel_rfl) (by kernel_rfl) (by kernel_rfl) (by kernel_rfl) (fun _ _ _ h => h) (Or.inl ⟨by rfl, ?_⟩) hHeld ?_; rotate_left; focus (intro w hSw; (try dsimp only at hSw); go_simp; try with_reducible rfl))
      (refine Late.take (i := 9) (v := ?_) rfl (by kernel_rfl) (by kernel_rfl) (by kernel_rfl) (by kernel_rfl) (by kernel_rfl) (fun _ _ _ h => h) (Or.inl ⟨by rfl, ?_⟩) hHeld ?_; rotate_left; focus (intro w hSw; (try dsimp only at hSw); go_simp; try with_reducible rfl))
      (refine Late.take (i := 10) (v := ?_) rfl (by kernel_rfl) (by kernel_rfl) (by kernel_rfl) (by kernel_rfl) (by kernel_rfl) (fun _ _ _ h => h) (Or.inl ⟨by rfl, ?_⟩) hHeld ?_; rotate_left; focus (intro w hSw; (try dsimp only at hSw); go_simp; try with_reducible rfl))
      (refine Late.take (i := 11) (v := ?_) rfl (by kernel_rfl) (by kernel_rfl) (by kernel_rfl) (by kernel_rfl) (by kernel_rfl) (fun _ _ _ h => h) (Or.inl ⟨by rfl, ?_⟩) hHeld ?_; rotate_left; focus (intro w hSw; (try dsimp only at hSw); go_simp; try with_reducible rfl))
      (refine Late.take (i := 12) (v := ?_) rfl (by kernel_rfl) (by kernel_rfl) (by kernel_rfl) (by kernel_rfl) (by kernel_rfl) (fun _ _ _ h => h) (Or.inl ⟨by rfl, ?_⟩) hHeld ?_; rotate_left; focus (intro w hSw; (try dsimp only at hSw); go_simp; try with_reducible rfl))
      (refine Late.take (i := 13) (v := ?_) rfl (by kernel_rfl) (by kernel_rfl) (by kernel_rfl) (by kernel_rfl) (by kernel_rfl) (fun _ _ _ h => h) (Or.inl ⟨by rfl, ?_⟩) hHeld ?_; rotate_left; focus (intro w hSw; (try dsimp only at hSw); go_simp; try with_reducible rfl))
      (refine Late.take (i := 14) (v := ?_) rfl (by kernel_rfl) (by kernel_rfl) (by kernel_rfl) (by kernel_rfl) (by kernel_rfl) (fun _ _ _ h => h) (Or.inl ⟨by rfl, ?_⟩) hHeld ?_; rotate_left; focus (intro w hSw; (try dsimp only at hSw); go_simp; try with_reducible rfl))
      (refine Late.take (i := 15) (v := ?_) rfl (by kernel_rfl) (by kernel_rfl) (by kernel_rfl) (by kernel_rfl) (by kernel_rfl) (fun _ _ _ h => h) (Or.inl ⟨by rfl, ?_⟩) hHeld ?_; rotate_left; focus (intro w hSw; (try dsimp only at hSw); go_simp; try with_reducible rfl))
      (refine Late.take (i := 16) (v := ?_) rfl (by kernel_rfl) (by kernel_rfl) (by kernel_rfl) (by kernel_rfl) (by kernel_rfl) (fun _ _ _ h => h) (Or.inl ⟨by rfl, ?_⟩) hHeld ?_; rotate_left; focus (intro w hSw; (try dsimp only at hSw); go_simp; try with_reducible rfl))
      (refine Late.ready (rs := [17]) (by kernel_rfl) (by simp) ?_; refine Late.Ready.last (by decide) rfl (fun K hK => ?_); go_simp; refine hK.out _ _ ?_; clear hK K)
      refine Late.done (by kernel_rfl) ?_ _
      have hD2 := set1hs hDd (.string (a0 ++ c0)) (.string ⟨#[]⟩)
      have hR2 := (other2 (w := wr.drew) (b := w.heap.size) (c := w.heap.size + 1) 1 2 (.string (a0 ++ c0)) (.string ⟨#[]⟩) (by omega)).trans (show wr.drew.heap[w.heap.size + 1]? = some zeroR from hR)
      have hB2 := (hB.drew.setCell (p := ⟨w.heap.size, 1, none⟩) (Nat.le_refl _) (.string (a0 ++ c0))).setCell (p := ⟨w.heap.size, 2, none⟩) (Nat.le_refl _) (.string ⟨#[]⟩)
      clear hHeld e1 hD hR hB hDd
      go_wp2
      go_roundw
      case rel => exact ⟨1, by omega, by go_num, hD2, hR2, hB2⟩
      case measure => simp [intOf]
    · clear mx0 mn0
      simp only [if_neg (show ¬ (1 : Nat) = 0 by decide), if_neg (show ¬ (1 : Nat) = 2 by decide)] at hD
      obtain ⟨_, d1, d2, d3, d4, _, _, _⟩ := cells8 hD
      have hf := thaw hD
      have hDd : wr.drew.heap[w.heap.size]? = some (.cells #[.int .i64 sz, .string (a0 ++ c0), .string ⟨#[]⟩, .string a1, .string b1, .bool dn, .int .i64 fu, .int .i64 kp] 31) := hD
      have e1 : wr.drew.cell? ⟨w.heap.size, 3, none⟩ = some (.string a1) := d3
      go_upto_region 5 with fail
      refine Late.start (m := 17) (S := fun x => x.cell? ⟨w.heap.size, 3, none⟩ = some (.string a1)) (by kernel_rfl) e1 (fun hHeld => ?_)
      have hc1 := HC1.out
      (refine Late.take (i := 0) (v := ?_) rfl (by kernel_rfl) (by kernel_rfl) (by kernel_rfl) (by kernel_rfl) (by kernel_rfl) (fun _ _ _ h => h) (Or.inl ⟨by rfl, ?_⟩) hHeld ?_; rotate_left; focus (intro w hSw; (try dsimp only at hSw); go_simp; try with_reducible rfl))
      (refine Late.take (i := 1) (v := ?_) rfl (by kernel_rfl) (by kernel_rfl) (by kernel_rfl) (by kernel_rfl) (by kernel_rfl) (fun _ _ _ h => h) (Or.inl ⟨by rfl, ?_⟩) hHeld ?_; rotate_left; focus (intro w hSw; (try dsimp only at hSw); go_simp; try with_reducible rfl))
      (refine Late.take (i := 2) (v := ?_) rfl (by kernel_rfl) (by kernel_rfl) (by kernel_rfl) (by kernel_rfl) (by kernel_rfl) (fun _ _ _ h => h) (Or.inl ⟨by rfl, ?_⟩) hHeld ?_; rotate_left; focus (intro w hSw; (try dsimp only at hSw); go_simp; try with_reducible rfl))
      (refine Late.take (i := 3) (v := ?_) rfl (by kernel_rfl) (by kernel_rfl) (by kernel_rfl) (by kernel_rfl) (by kernel_rfl) (fun _ _ _ h => h) (Or.inl ⟨by rfl, ?_⟩) hHeld ?_; rotate_left; focus (intro w hSw; (try dsimp only at hSw); go_simp; try with_reducible rfl))
      (refine Late.take (i := 4) (v := ?_) rfl (by kernel_rfl) (by kernel_rfl) (by kernel_rfl) (by kernel_rfl) (by kernel_rfl) (fun _ _ _ h => h) (Or.inl ⟨by rfl, ?_⟩) hHeld ?_; rotate_left; focus (intro w hSw; (try dsimp only at hSw); go_simp; try with_reducible rfl))
      (refine Late.take (i := 5) (v := ?_) rfl (by kernel_rfl) (by kernel_rfl) (by kernel_rfl) (by kernel_rfl) (by kernel_rfl) (fun _ _ _ h => h) (Or.inl ⟨by rfl, ?_⟩) hHeld ?_; rotate_left; focus (intro w hSw; (try dsimp only at hSw); go_simp; try with_reducible rfl))
      (refine Late.take (i := 6) (v := ?_) rfl (by kernel_rfl) (by kernel_rfl) (by kernel_rfl) (by kernel_rfl) (by kernel_rfl) (fun _ _ _ h => h) (Or.inl ⟨by rfl, ?_⟩) hHeld ?_; rotate_left; focus (intro w hSw; (try dsimp only at hSw); go_simp; try with_reducible rfl))
      (refine Late.take (i := 7) (v := ?_) rfl (by kernel_rfl) (by kernel_rfl) (by kernel_rfl) (by kernel_rfl) (by kernel_rfl) (fun _ _ _ h => h) (Or.inl ⟨by rfl, ?_⟩) hHeld ?_; rotate_left; focus (intro w hSw; (try dsimp only at hSw); go_simp; try with_reducible rfl))
      (refine Late.take (i := 8) (v := ?_) rfl (by kernel_rfl) (by kernel_rfl) (by kernel_rfl) (by kernel_rfl) (by kernel_rfl) (fun _ _ _ h => h) (Or.inl ⟨by rfl, ?_⟩) hHeld ?_; rotate_left; focus (intro w hSw; (try dsimp only at hSw); go_simp; try with_reducible rfl))
      (refine Late.take (i := 9) (v := ?_) rfl (by kernel_rfl) (by kernel_rfl) (by kernel_rfl) (by kernel_rfl) (by kernel_rfl) (fun _ _ _ h => h) (Or.inl ⟨by rfl, ?_⟩) hHeld ?_; rotate_left; focus (intro w hSw; (try dsimp only at hSw); go_simp; try with_reducible rfl))
      (refine Late.take (i := 10) (v := ?_) rfl (by kernel_rfl) (by kernel_rfl) (by kernel_rfl) (by kernel_rfl) (by kernel_rfl) (fun _ _ _ h => h) (Or.inl ⟨by rfl, ?_⟩) hHeld ?_; rotate_left; focus (intro w hSw; (try dsimp only at hSw); go_simp; try with_reducible rfl))
      (refine Late.take (i := 11) (v := ?_) rfl (by kernel_rfl) (by kernel_rfl) (by kernel_rfl) (by kernel_rfl) (by kernel_rfl) (fun _ _ _ h => h) (Or.inl ⟨by rfl, ?_⟩) hHeld ?_; rotate_left; focus (intro w hSw; (try dsimp only at hSw); go_simp; try with_reducible rfl))
      (refine Late.take (i := 12) (v := ?_) rfl (by kernel_rfl) (by kernel_rfl) (by kernel_rfl) (by kernel_rfl) (by kernel_rfl) (fun _ _ _ h => h) (Or.inl ⟨by rfl, ?_⟩) hHeld ?_; rotate_left; focus (intro w hSw; (try dsimp only at hSw); go_simp; try with_reducible rfl))
      (refine Late.take (i := 13) (v := ?_) rfl (by kernel_rfl) (by kernel_rfl) (by kernel_rfl) (by kernel_rfl) (by kernel_rfl) (fun _ _ _ h => h) (Or.inl ⟨by rfl, ?_⟩) hHeld ?_; rotate_left; focus (intro w hSw; (try dsimp only at hSw); go_simp; try with_reducible rfl))
      (refine Late.take (i := 14) (v := ?_) rfl (by kernel_rfl) (by kernel_rfl) (by kernel_rfl) (by kernel_rfl) (by kernel_rfl) (fun _ _ _ h => h) (Or.inl ⟨by rfl, ?_⟩) hHeld ?_; rotate_left; focus (intro w hSw; (try dsimp only at hSw); go_simp; try with_reducible rfl))
      (refine Late.take (i := 15) (v := ?_) rfl (by kernel_rfl) (by kernel_rfl) (by kernel_rfl) (by kernel_rfl) (by kernel_rfl) (fun _ _ _ h => h) (Or.inl ⟨by rfl, ?_⟩) hHeld ?_; rotate_left; focus (intro w hSw; (try dsimp only at hSw); go_simp; try with_reducible rfl))
      (refine Late.take (i := 16) (v := ?_) rfl (by kernel_rfl) (by kernel_rfl) (by kernel_rfl) (by kernel_rfl) (by kernel_rfl) (fun _ _ _ h => h) (Or.inl ⟨by rfl, ?_⟩) hHeld ?_; rotate_left; focus (intro w hSw; (try dsimp only at hSw); go_simp; try with_reducible rfl))
      (refine Late.ready (rs := [17]) (by kernel_rfl) (by simp) ?_; refine Late.Ready.last (by decide) rfl (fun K hK => ?_); go_simp; refine hK.out _ _ ?_; clear hK K)
      refine Late.done (by kernel_rfl) ?_ _
      have hD2 := set3of8 hDd (.string (a1 ++ c1)) (.string ⟨#[]⟩)
      have hR2 := (other2 (w := wr.drew) (b := w.heap.size) (c := w.heap.size + 1) 3 4 (.string (a1 ++ c1)) (.string ⟨#[]⟩) (by omega)).trans (show wr.drew.heap[w.heap.size + 1]? = some zeroR from hR)
      have hB2 := (hB.drew.setCell (p := ⟨w.heap.size, 3, none⟩) (Nat.le_refl _) (.string (a1 ++ c1))).setCell (p := ⟨w.heap.size, 4, none⟩) (Nat.le_refl _) (.string ⟨#[]⟩)
      clear hHeld e1 hD hR hB hDd
      go_wp2
      go_roundw
      case rel => exact ⟨2, by omega, by go_num, hD2, hR2, hB2⟩
      case measure => simp [intOf]
    · clear mx0 mn0 mx1 mn1
      simp only [if_neg (show ¬ (2 : Nat) = 0 by decide), if_true] at hD
      have hD2 := set5of8 hD (.bool true) (.int .i64 (-1))
      have hR2 := (other2 (w := wr) (b := w.heap.size) (c := w.heap.size + 1) 5 6 (.bool true) (.int .i64 (-1)) (by omega)).trans hR
      have hE := setRow_heap ((wr.setCell ⟨w.heap.size, 5, none⟩ (.bool true)).setCell ⟨w.heap.size, 6, none⟩ (.int .i64 (-1))) (w.heap.size + 1) _ #[.int .i64 sz, .string (a0 ++ c0), .string ⟨#[]⟩, .string (a1 ++ c1), .string ⟨#[]⟩, .bool true, .int .i64 (-1), .int .i64 kp] _ _ hR2
      obtain ⟨_, _, _, _, _, t5, t6, _⟩ := cells8 hD
      have hf := thaw hD
      have hB2 := Whole.row_below ((hB.setCell (p := ⟨w.heap.size, 5, none⟩) (Nat.le_refl _) (.bool true)).setCell (p := ⟨w.heap.size, 6, none⟩) (Nat.le_refl _) (.int .i64 (-1))) (Nat.le_succ _) #[.int .i64 sz, .string (a0 ++ c0), .string ⟨#[]⟩, .string (a1 ++ c1), .string ⟨#[]⟩, .bool true, .int .i64 (-1), .int .i64 kp]
      go_wp2_with (first | (refine Whole.load _ rfl _ 31 rfl _ _ _ rfl hD2 Try.underlying31 rfl szR ?_) | (refine Whole.store _ rfl rfl _ _ 31 rfl (w.heap.size + 1) _ #[.int .i64 sz, .string (a0 ++ c0), .string ⟨#[]⟩, .string (a1 ++ c1), .string ⟨#[]⟩, .bool true, .int .i64 (-1), .int .i64 kp] rfl rfl hR2 szR rfl (one8 _ _ _ _ _ _ _ _) ?_))
      refine bodyPost_ret (v := .agg #[.int .i64 sz, .string (a0 ++ c0), .string ⟨#[]⟩, .string (a1 ++ c1), .string ⟨#[]⟩, .bool true, .int .i64 (-1), .int .i64 kp]) (Whole.result_one rfl _ Try.prog _ rfl hE Try.underlying31 rfl szR) rfl ⟨rfl, hB2⟩
/-- What the document's deeds tell. -/
theorem result_pairR {fn : Func} {p q : Tmp} (h : fn.results = #[.cell p 31, .tmp q]) (tmps : Array Value) (w : World) {b : Nat} (v : Dk) (x : Int) (hp : tmps.getD p undef = .pointer (some ⟨b, 0, none⟩))
    (hb : w.heap[b]? = some (boxR v)) (hv : tmps.getD q undef = .int .i64 x) : (results fn tmps).run Try.prog w = .ok (retD (v, x)) w :=
  Whole.result_two h tmps Try.prog w hp hb Try.underlying31 rfl szR hv
/-- Three disks behind burnt's door, and the one that is handed back. -/
structure Door4 (w W : World) (d x y : Dk) : Prop where
  d : W.heap[w.heap.size]? = some (boxR d)
  x : W.heap[w.heap.size + 1]? = some (boxR x)
  y : W.heap[w.heap.size + 1 + 1]? = some (boxR y)
  r : W.heap[w.heap.size + 1 + 1 + 1]? = some zeroR
  b : Below w.heap.size w W
theorem door4 (w : World) (d x y : Dk) : Door4 w ((((w.alloc (boxR d)).alloc (boxR x)).alloc (boxR y)).alloc zeroR) d x y :=
  ⟨Boxes.keep (Boxes.keep (Boxes.keep (Boxes.fresh _ _) (Boxes.old _ _)) (Boxes.old _ _)) (Boxes.old _ _), Boxes.keep (Boxes.keep (Boxes.fresh1 _ _ _) (Boxes.old _ _)) (Boxes.old _ _), Boxes.keep (Boxes.fresh2 _ _ _ _) (Boxes.old _ _), Boxes.fresh3 _ _ _ _ _,
    grows (grows (grows (Boxes.old _ _) (Boxes.old _ _)) (Boxes.old _ _)) (Boxes.old _ _)⟩
theorem Door4.more {w W W' : World} {d x y : Dk} (h : Door4 w W d x y) (hb : Below W.heap.size W W') : Door4 w W' d x y :=
  ⟨Boxes.keep h.d hb, Boxes.keep h.x hb, Boxes.keep h.y hb, Boxes.keep h.r hb, grows h.b hb⟩
theorem Door4.back {w W : World} {d x y : Dk} (h : Door4 w W d x y) (z : Dk) : (W.setRow (w.heap.size + 1 + 1 + 1) (cellsD z)).heap[w.heap.size + 1 + 1 + 1]? = some (boxR z) ∧ Below w.heap.size w (W.setRow (w.heap.size + 1 + 1 + 1) (cellsD z)) :=
  ⟨setRow_heap W _ _ _ _ _ h.r, Whole.row_below h.b (by omega) _⟩
set_option maxRecDepth 100000 in
set_option maxHeartbeats 1000000 in
theorem burnt_ref (d x y : Dk) (hf1 : d.fuse ≤ 9223372036854775807) (hx : x.fuse = d.fuse) (hy : used y ≤ 4611686018427387904) (w : World) :
    Calls Try.prog 33 #[valD d, valD x, valD y] w fun e w' => e = .returned (retD (burnt d x y)) ∧ Below w.heap.size w w' := by
  have HC := Lib.hid (fun w' => crash_ref y hy d.keep w')
  unfold valD at HC ⊢
  rcases Int.lt_trichotomy d.fuse 0 with h | h | h
  · rw [fuse_none h]
    go_enter Try.func33, Try.ntmps33
    go_upto_region 1 with fail
    have hd := door4 w d x y
    obtain ⟨W, hW⟩ : ∃ W, W = (((w.alloc (boxR d)).alloc (boxR x)).alloc (boxR y)).alloc zeroR := ⟨_, rfl⟩
    rw [← hW] at hd ⊢
    clear hW
    have c6 := Boxes.cell_at (i := 6) hd.d (v := .int .i64 d.fuse) rfl
    have c7 := Boxes.cell_at (i := 7) hd.d (v := .int .i64 d.keep) rfl
    have x6 := Boxes.cell_at (i := 6) hd.x (v := .int .i64 x.fuse) rfl
    have hfz := thaw hd.x
    rw [hx] at x6
    obtain ⟨hE, hB⟩ := hd.back x
    have g0 : (d.fuse == 0) = false := by rw [beq_eq_false_iff_ne]; omega
    have g1 : ¬ d.fuse = 0 := by omega
    have g2 : decide (0 < d.fuse) = false := decide_eq_false (by omega)
    obtain ⟨fu, hfu⟩ : ∃ fu, d.fuse = fu := ⟨_, rfl⟩
    rw [hfu] at c6 x6 g0 g1 g2 h
    clear hfu HC
    go_upto_region 5 with fail
    clear c6 c7 x6 hfz
    have hx1 := hd.x
    have hr1 := hd.r
    go_wp2_with (first | (refine Whole.load W rfl _ 31 rfl _ _ _ rfl hx1 Try.underlying31 rfl szR ?_) | (refine Whole.store W rfl rfl _ _ 31 rfl (w.heap.size + 1 + 1 + 1) _ (cellsD x) rfl rfl hr1 szR rfl (one_cells x) ?_))
    refine bodyPost_ret (v := retD (x, 0)) (result_pairR rfl _ _ x 0 rfl hE rfl) rfl ⟨rfl, hB⟩
  · rw [fuse_out h]
    obtain ⟨z, hz⟩ : ∃ z, crash y d.keep = z := ⟨_, rfl⟩
    rw [hz] at HC ⊢
    clear hz
    go_enter Try.func33, Try.ntmps33
    go_upto_region 1 with fail
    have hd := door4 w d x y
    obtain ⟨W, hW⟩ : ∃ W, W = (((w.alloc (boxR d)).alloc (boxR x)).alloc (boxR y)).alloc zeroR := ⟨_, rfl⟩
    rw [← hW] at hd ⊢
    clear hW
    have c6 := Boxes.cell_at (i := 6) hd.d (v := .int .i64 d.fuse) rfl
    have c7 := Boxes.cell_at (i := 7) hd.d (v := .int .i64 d.keep) rfl
    have x6 := Boxes.cell_at (i := 6) hd.x (v := .int .i64 x.fuse) rfl
    have hfz := thaw hd.x
    rw [hx] at x6
    rw [h] at c6 x6
    go_wp2_with (refine Whole.load W rfl _ 31 rfl _ _ _ rfl hd.y Try.underlying31 rfl szR ?_)
    refine (HC.out _).mono ?_
    rintro e w3 ⟨rfl, hw3⟩
    have hd3 := hd.more hw3
    obtain ⟨hE, hB⟩ := hd3.back z
    have hr3 := hd3.r
    clear hd hw3 c6 c7 x6 hfz hd3 HC
    go_wp2_with (refine Whole.store w3 rfl rfl _ _ 31 rfl (w.heap.size + 1 + 1 + 1) _ (cellsD z) rfl rfl hr3 szR rfl (one_cells z) ?_)
    refine bodyPost_ret (v := retD (z, 12)) (result_pairR rfl _ _ z 12 rfl hE rfl) rfl ⟨rfl, hB⟩
  · rw [fuse_well h]
    obtain ⟨z, hz⟩ : ∃ z : Dk, { x with fuse := d.fuse - 1 } = z := ⟨_, rfl⟩
    rw [hz]
    go_enter Try.func33, Try.ntmps33
    go_upto_region 1 with fail
    have hd := door4 w d x y
    obtain ⟨W, hW⟩ : ∃ W, W = (((w.alloc (boxR d)).alloc (boxR x)).alloc (boxR y)).alloc zeroR := ⟨_, rfl⟩
    rw [← hW] at hd ⊢
    clear hW
    have c6 := Boxes.cell_at (i := 6) hd.d (v := .int .i64 d.fuse) rfl
    have c7 := Boxes.cell_at (i := 7) hd.d (v := .int .i64 d.keep) rfl
    have x6 := Boxes.cell_at (i := 6) hd.x (v := .int .i64 x.fuse) rfl
    have hfz := thaw hd.x
    rw [hx] at x6
    have g0 : (d.fuse == 0) = false := by rw [beq_eq_false_iff_ne]; omega
    have g1 : ¬ d.fuse = 0 := by omega
    have g2 : decide (0 < d.fuse) = true := decide_eq_true (by omega)
    have hW2 : (W.setCell ⟨w.heap.size + 1, 6, none⟩ (.int .i64 (d.fuse - 1))).heap[w.heap.size + 1]? = some (boxR { x with fuse := d.fuse - 1 }) := heap_setCell_same W (w.heap.size + 1) 6 _ _ (.int .i64 (d.fuse - 1)) hd.x
    have hR2 : (W.setCell ⟨w.heap.size + 1, 6, none⟩ (.int .i64 (d.fuse - 1))).heap[w.heap.size + 1 + 1 + 1]? = some zeroR := (heap_setCell_other W ⟨w.heap.size + 1, 6, none⟩ (w.heap.size + 1 + 1 + 1) (.int .i64 (d.fuse - 1)) (show w.heap.size + 1 + 1 + 1 ≠ w.heap.size + 1 by omega)).trans hd.r
    have hB2 := hd.b.setCell (p := ⟨w.heap.size + 1, 6, none⟩) (Nat.le_succ _) (.int .i64 (d.fuse - 1))
    rw [hz] at hW2
    clear hz
    obtain ⟨fu, hfu⟩ : ∃ fu, d.fuse = fu := ⟨_, rfl⟩
    rw [hfu] at c6 x6 g0 g1 g2 h hf1 hW2 hR2 hB2
    clear hfu HC
    go_upto_region 5 with fail
    obtain ⟨W3, hW3⟩ : ∃ W3, W3 = W.setCell ⟨w.heap.size + 1, 6, none⟩ (.int .i64 (fu - 1)) := ⟨_, rfl⟩
    rw [← hW3] at hW2 hR2 hB2 ⊢
    clear hW3 hd c6 c7 x6 hfz
    have hE := setRow_heap W3 (w.heap.size + 1 + 1 + 1) _ (cellsD z) _ _ hR2
    have hB := Whole.row_below hB2 (show w.heap.size ≤ w.heap.size + 1 + 1 + 1 by omega) (cellsD z)
    go_wp2_with (first | (refine Whole.load W3 rfl _ 31 rfl _ _ _ rfl hW2 Try.underlying31 rfl szR ?_) | (refine Whole.store W3 rfl rfl _ _ 31 rfl (w.heap.size + 1 + 1 + 1) _ (cellsD z) rfl rfl hR2 szR rfl (one_cells z) ?_))
    refine bodyPost_ret (v := retD (z, 0)) (result_pairR rfl _ _ z 0 rfl hE rfl) rfl ⟨rfl, hB⟩
end Go.Proofs.Ytoomanlonhnleaa.Disk
