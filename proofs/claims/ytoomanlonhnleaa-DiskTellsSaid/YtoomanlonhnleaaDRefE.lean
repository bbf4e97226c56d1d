/- What the law's refD makes of a disk: the document's, with the same in it. -/
import Derived.Test.YtoomanlonhnleaaDRefB
namespace Go.Proofs.Ytoomanlonhnleaa.Disk
open Go.RowKit

/-- What lies in memory: the disk, the one that is handed back, the one that is made. -/
structure RD (w W : World) (v : Dk) (c : Array Value) : Prop where
  d : W.heap[w.heap.size]? = some (box v)
  r : W.heap[w.heap.size + 1]? = some zeroR
  o : W.heap[w.heap.size + 1 + 1]? = some (.cells c 31)
  b : Below w.heap.size w W
set_option maxRecDepth 100000 in
set_option maxHeartbeats 2000000 in
theorem refD_any (v : Dk) (w : World) : Calls Try.prog 9 #[valD v] w fun e w' => e = .returned (valD v) ∧ Below w.heap.size w w' := by
  obtain ⟨sz, ⟨a0, b0⟩, ⟨a1, b1⟩, dn, fu, kp⟩ := v
  unfold valD cellsD
  dsimp only
  go_enter Try.func9, Try.ntmps9
  go_wp2
  go_loopw [4] (fun i wr => ∃ k : Nat, k ≤ 2 ∧ i = .int .i64 k ∧ RD w wr ⟨sz, ⟨a0, b0⟩, ⟨a1, b1⟩, dn, fu, kp⟩ #[.int .i64 sz, .string (if k = 0 then ⟨#[]⟩ else a0), .string (if k = 0 then ⟨#[]⟩ else b0), .string (if k = 2 then a1 else ⟨#[]⟩), .string (if k = 2 then b1 else ⟨#[]⟩), .bool dn, .int .i64 fu, .int .i64 kp]) (fun i _ => 3 - (intOf i).toNat)
  case atStart =>
    exact ⟨0, by omega, rfl, Boxes.keep (Boxes.keep (Boxes.fresh _ _) (Boxes.old _ _)) (Boxes.old _ _), Boxes.keep (Boxes.fresh1 _ _ _) (Boxes.old _ _), Boxes.fresh2 _ _ _ _, grows (grows (Boxes.old _ _) (Boxes.old _ _)) (Boxes.old _ _)⟩
  case round =>
    obtain ⟨k, hk, rfl, hM⟩ := hrel
    have hk' : k = 0 ∨ k = 1 ∨ k = 2 := by omega
    rcases hk' with rfl | rfl | rfl
    · simp only [if_true, if_neg (show ¬ (0 : Nat) = 2 by decide)] at hM
      obtain ⟨_, d1, d2, d3, d4, _, _, _⟩ := cells8 hM.d
      obtain ⟨_, o1, o2, o3, o4, _, _, _⟩ := cells8 hM.o
      have hf := thaw hM.o
      have e1 : wr.drew.cell? ⟨w.heap.size, 1, none⟩ = some (.string a0) := d1
      have e2 : wr.drew.cell? ⟨w.heap.size, 2, none⟩ = some (.string b0) := d2
      go_upto_region 5 with fail
      refine Late.start (m := 14) (S := fun x => x.cell? ⟨w.heap.size, 1, none⟩ = some (.string a0) ∧ x.cell? ⟨w.heap.size, 2, none⟩ = some (.string b0)) (by kernel_rfl) ⟨e1, e2⟩ (fun hHeld => ?_)
      (refine Late.take (i := 0) (v := ?_) rfl (by kernel_rfl) (by kernel_rfl) (by kernel_rfl) (by kernel_rfl) (by kernel_rfl) (fun _ _ _ h => h) (Or.inl ⟨by rfl, ?_⟩) hHeld ?_; rotate_left; focus (intro w hSw; (try dsimp only at hSw); go_simp; try with_reducible rfl))
      (refine Late.take (i := 1) (v := ?_) rfl (by kernel_rfl) (by kernel_rfl) (by kernel_rfl) (by kernel_rfl) (by kernel_rfl) (fun _ _ _ h => h) (Or.inl ⟨by rfl, ?_⟩) hHeld ?_; rotate_left; focus (intro w hSw; (try dsimp only at hSw); go_simp; try with_reducible rfl))
      (refine Late.take (i := 2) (v := ?_) rfl (by kernel_rfl) (by kernel_rfl) (by kernel_rfl) (by kernel_rfl) (by kernel_rfl) (fun _ _ _ h => h) (Or.inl ⟨by rfl, ?_⟩) hHeld ?_; rotate_left; focus (intro w hSw; (try dsimp only at hSw); go_simp; try with_reducible rfl))
      (refine Late.take (i := 3) (v := ?_) rfl (by kernel_rfl) (by kernel_rfl) (by kernel_rfl) (by kernel_rfl) (by kernel_rfl) (fun _ _ _ h => h) (Or.inl ⟨by rfl, ?_⟩) hHeld ?_; rotate_left; focus (intro w hSw; (try dsimp only at hSw); go_simp; try with_reducible rfl))
      (refine Late.take (i := 4) (v := ?_) rfl (by kernel_rfl) (by kernel_rfl) (by kernel_rfl) (by kernel_rfl) (by kernel_rfl) (fun _ _ _ h => h) (Or.inl ⟨by rfl, ?_⟩) hHeld ?_; rotate_left; focus (intro w hSw; (try dsimp only at hSw); go_simp; try with_reducible rfl))
      (refine Late.take (i := 5) (v := ?_) rfl (by kernel_rfl) (by kernel_rfl) (by kernel_rfl) (by kernel_rfl) (by kernel_rfl) (fun _ _ _ h => h) (Or.inl ⟨by rfl, ?_⟩) hHeld ?_; rotate_left; focus (intro w hSw; (try dsimp only at hSw); go_simp; try with_reducible rfl))
      (refine Late.take (i := 6) (v := ?_) rfl (by kernel_rfl) (by kernel_rfl) (by kernel_rfl) (by kernel_rfl) (by kernel_rfl) (fun _ _ _ h => h) (Or.inl ⟨by rfl, ?_⟩) hHeld ?_; rotate_left; focus (intro w hSw; (try dsimp only at hSw); go_simp; try with_reducible rfl))
      (refine Late.take (i := 7) (v := ?_) rfl (by kernel_rfl) (by kernel_rfl) (by kernel_rfl) (by kernel_rfl) (by kernel_rfl) (fun _ _ _ h => h) (Or.inl ⟨by rfl, ?_⟩) hHeld ?_; rotate_left; focus (intro w hSw; (try dsimp only at hSw); go_simp; try with_reducible rfl))
      (refine Late.take (i := 8) (v := ?_) rfl (by kernel_rfl) (by kernel_rfl) (by kernel_rfl) (by kernel_rfl) (by kernel_rfl) (fun _ _ _ h => h) (Or.inl ⟨by rfl, ?_⟩) hHeld ?_; rotate_left; focus (intro w hSw; (try dsimp only at hSw); go_simp; try with_reducible rfl))
      (refine Late.take (i := 9) (v := ?_) rfl (by kernel_rfl) (by kernel_rfl) (by kernel_rfl) (by kernel_rfl) (by kernel_rfl) (fun _ _ _ h => h) (Or.inl ⟨by rfl, ?_⟩) hHeld ?_; rotate_left; focus (intro w hSw; (try dsimp only at hSw); go_simp; try with_reducible rfl))
      (refine Late.take (i := 10) (v := ?_) rfl (by kernel_rfl) (by kernel_rfl) (by kernel_rfl) (by kernel_rfl) (by kernel_rfl) (fun _ _ _ h => h) (Or.inl ⟨by rfl, ?_⟩) hHeld ?_; rotate_left; focus (intro w hSw; (try dsimp only at hSw); go_simp; try with_reducible rfl))
      (refine Late.take (i := 11) (v := ?_) rfl (by kernel_rfl) (by kernel_rfl) (by kernel_rfl) (by kernel_rfl) (by kernel_rfl) (fun _ _ _ h => h) (Or.inl ⟨by rfl, ?_⟩) hHeld ?_; rotate_left; focus (intro w hSw; (try dsimp only at hSw); go_simp; try with_reducible rfl))
      (refine Late.take (i := 12) (v := ?_) rfl (by kernel_rfl) (by kernel_rfl) (by kernel_rfl) (by kernel_rfl) (by kernel_rfl) (fun _ _ _ h => h) (Or.inl ⟨by rfl, ?_⟩) hHeld ?_; rotate_left; focus (intro w hSw; (try dsimp only at hSw); go_simp; try with_reducible rfl))
      (refine Late.take (i := 13) (v := ?_) rfl (by kernel_rfl) (by kernel_rfl) (by kernel_rfl) (by kernel_rfl) (by kernel_rfl) (fun _ _ _ h => h) (Or.inl ⟨by rfl, ?_⟩) hHeld ?_; rotate_left; focus (intro w hSw; (try dsimp only at hSw); go_simp; try with_reducible rfl))
      (refine Late.ready (rs := [14]) (by kernel_rfl) (by simp) ?_; refine Late.Ready.last (by decide) rfl (fun K hK => ?_); go_simp; refine hK.out _ _ ?_; clear hK K)
      refine Late.done (by kernel_rfl) ?_ _
      have hO : wr.drew.heap[w.heap.size + 1 + 1]? = some (.cells #[.int .i64 sz, .string ⟨#[]⟩, .string ⟨#[]⟩, .string ⟨#[]⟩, .string ⟨#[]⟩, .bool dn, .int .i64 fu, .int .i64 kp] 31) := hM.o
      have hO2 := set1of8 hO (.string a0) (.string b0)
      have hD2 := (other2 (w := wr.drew) (b := w.heap.size + 1 + 1) (c := w.heap.size) 1 2 (.string a0) (.string b0) (by omega)).trans (show wr.drew.heap[w.heap.size]? = some (box ⟨sz, ⟨a0, b0⟩, ⟨a1, b1⟩, dn, fu, kp⟩) from hM.d)
      have hR2 := (other2 (w := wr.drew) (b := w.heap.size + 1 + 1) (c := w.heap.size + 1) 1 2 (.string a0) (.string b0) (by omega)).trans (show wr.drew.heap[w.heap.size + 1]? = some zeroR from hM.r)
      have hB2 := (hM.b.drew.setCell (p := ⟨w.heap.size + 1 + 1, 1, none⟩) (show w.heap.size ≤ w.heap.size + 1 + 1 by omega) (.string a0)).setCell (p := ⟨w.heap.size + 1 + 1, 2, none⟩) (show w.heap.size ≤ w.heap.size + 1 + 1 by omega) (.string b0)
      clear hHeld e1 e2 hM hO hf
      go_wp2
      go_roundw
      case rel => exact ⟨1, by omega, by go_num, hD2, hR2, hO2, hB2⟩
      case measure => simp [intOf]
    · simp only [if_neg (show ¬ (1 : Nat) = 0 by decide), if_neg (show ¬ (1 : Nat) = 2 by decide)] at hM
      obtain ⟨_, d1, d2, d3, d4, _, _, _⟩ := cells8 hM.d
      obtain ⟨_, o1, o2, o3, o4, _, _, _⟩ := cells8 hM.o
      have hf := thaw hM.o
      have e1 : wr.drew.cell? ⟨w.heap.size, 3, none⟩ = some (.string a1) := d3
      have e2 : wr.drew.cell? ⟨w.heap.size, 4, none⟩ = some (.string b1) := d4
      go_upto_region 5 with fail
      refine Late.start (m := 14) (S := fun x => x.cell? ⟨w.heap.size, 3, none⟩ = some (.string a1) ∧ x.cell? ⟨w.heap.size, 4, none⟩ = some (.string b1)) (by kernel_rfl) ⟨e1, e2⟩ (fun hHeld => ?_)
      (refine Late.take (i := 0) (v := ?_) rfl (by kernel_rfl) (by kernel_rfl) (by kernel_rfl) (by kernel_rfl) (by kernel_rfl) (fun _ _ _ h => h) (Or.inl ⟨by rfl, ?_⟩) hHeld ?_; rotate_left; focus (intro w hSw; (try dsimp only at hSw); go_simp; try with_reducible rfl))
      (refine Late.take (i := 1) (v := ?_) rfl (by kernel_rfl) (by kernel_rfl) (by kernel_rfl) (by kernel_rfl) (by kernel_rfl) (fun _ _ _ h => h) (Or.inl ⟨by rfl, ?_⟩) hHeld ?_; rotate_left; focus (intro w hSw; (try dsimp only at hSw); go_simp; try with_reducible rfl))
      (refine Late.take (i := 2) (v := ?_) rfl (by kernel_rfl) (by kernel_rfl) (by kernel_rfl) (by kernel_rfl) (by kernel_rfl) (fun _ _ _ h => h) (Or.inl ⟨by rfl, ?_⟩) hHeld ?_; rotate_left; focus (intro w hSw; (try dsimp only at hSw); go_simp; try with_reducible rfl))
      (refine Late.take (i := 3) (v := ?_) rfl (by kernel_rfl) (by kernel_rfl) (by kernel_rfl) (by kernel_rfl) (by kernel_rfl) (fun _ _ _ h => h) (Or.inl ⟨by rfl, ?_⟩) hHeld ?_; rotate_left; focus (intro w hSw; (try dsimp only at hSw); go_simp; try with_reducible rfl))
      (refine Late.take (i := 4) (v := ?_) rfl (by kernel_rfl) (by kernel_rfl) (by kernel_rfl) (by kernel_rfl) (by kernel_rfl) (fun _ _ _ h => h) (Or.inl ⟨by rfl, ?_⟩) hHeld ?_; rotate_left; focus (intro w hSw; (try dsimp only at hSw); go_simp; try with_reducible rfl))
      (refine Late.take (i := 5) (v := ?_) rfl (by kernel_rfl) (by kernel_rfl) (by kernel_rfl) (by kernel_rfl) (by kernel_rfl) (fun _ _ _ h => h) (Or.inl ⟨by rfl, ?_⟩) hHeld ?_; rotate_left; focus (intro w hSw; (try dsimp only at hSw); go_simp; try with_reducible rfl))
      (refine Late.take (i := 6) (v := ?_) rfl (by kernel_rfl) (by kernel_rfl) (by kernel_rfl) (by kernel_rfl) (by kernel_rfl) (fun _ _ _ h => h) (Or.inl ⟨by rfl, ?_⟩) hHeld ?_; rotate_left; focus (intro w hSw; (try dsimp only at hSw); go_simp; try with_reducible rfl))
      (refine Late.take (i := 7) (v := ?_) rfl (by kernel_rfl) (by kernel_rfl) (by kernel_rfl) (by kernel_rfl) (by kernel_rfl) (fun _ _ _ h => h) (Or.inl ⟨by rfl, ?_⟩) hHeld ?_; rotate_left; focus (intro w hSw; (try dsimp only at hSw); go_simp; try with_reducible rfl))
      (refine Late.take (i := 8) (v := ?_) rfl (by kernel_rfl) (by kernel_rfl) (by kernel_rfl) (by kernel_rfl) (by kernel_rfl) (fun _ _ _ h => h) (Or.inl ⟨by rfl, ?_⟩) hHeld ?_; rotate_left; focus (intro w hSw; (try dsimp only at hSw); go_simp; try with_reducible rfl))
      (refine Late.take (i := 9) (v := ?_) rfl (by kernel_rfl) (by kernel_rfl) (by kernel_rfl) (by kernel_rfl) (by kernel_rfl) (fun _ _ _ h => h) (Or.inl ⟨by rfl, ?_⟩) hHeld ?_; rotate_left; focus (intro w hSw; (try dsimp only at hSw); go_simp; try with_reducible rfl))
      (refine Late.take (i := 10) (v := ?_) rfl (by kernel_rfl) (by kernel_rfl) (by kernel_rfl) (by kernel_rfl) (by kernel_rfl) (fun _ _ _ h => h) (Or.inl ⟨by rfl, ?_⟩) hHeld ?_; rotate_left; focus (intro w hSw; (try dsimp only at hSw); go_simp; try with_reducible rfl))
      (refine Late.take (i := 11) (v := ?_) rfl (by kernel_rfl) (by kernel_rfl) (by kernel_rfl) (by kernel_rfl) (by kernel_rfl) (fun _ _ _ h => h) (Or.inl ⟨by rfl, ?_⟩) hHeld ?_; rotate_left; focus (intro w hSw; (try dsimp only at hSw); go_simp; try with_reducible rfl))
      (refine Late.take (i := 12) (v := ?_) rfl (by kernel_rfl) (by kernel_rfl) (by kernel_rfl) (by kernel_rfl) (by kernel_rfl) (fun _ _ _ h => h) (Or.inl ⟨by rfl, ?_⟩) hHeld ?_; rotate_left; focus (intro w hSw; (try dsimp only at hSw); go_simp; try with_reducible rfl))
      (refine Late.take (i := 13) (v := ?_) rfl (by kernel_rfl) (by kernel_rfl) (by kernel_rfl) (by kernel_rfl) (by kernel_rfl) (fun _ _ _ h => h) (Or.inl ⟨by rfl, ?_⟩) hHeld ?_; rotate_left; focus (intro w hSw; (try dsimp only at hSw); go_simp; try with_reducible rfl))
      (refine Late.ready (rs := [14]) (by kernel_rfl) (by simp) ?_; refine Late.Ready.last (by decide) rfl (fun K hK => ?_); go_simp; refine hK.out _ _ ?_; clear hK K)
      refine Late.done (by kernel_rfl) ?_ _
      have hO : wr.drew.heap[w.heap.size + 1 + 1]? = some (.cells #[.int .i64 sz, .string a0, .string b0, .string ⟨#[]⟩, .string ⟨#[]⟩, .bool dn, .int .i64 fu, .int .i64 kp] 31) := hM.o
      have hO2 := set3of8 hO (.string a1) (.string b1)
      have hD2 := (other2 (w := wr.drew) (b := w.heap.size + 1 + 1) (c := w.heap.size) 3 4 (.string a1) (.string b1) (by omega)).trans (show wr.drew.heap[w.heap.size]? = some (box ⟨sz, ⟨a0, b0⟩, ⟨a1, b1⟩, dn, fu, kp⟩) from hM.d)
      have hR2 := (other2 (w := wr.drew) (b := w.heap.size + 1 + 1) (c := w.heap.size + 1) 3 4 (.string a1) (.string b1) (by omega)).trans (show wr.drew.heap[w.heap.size + 1]? = some zeroR from hM.r)
      have hB2 := (hM.b.drew.setCell (p := ⟨w.heap.size + 1 + 1, 3, none⟩) (show w.heap.size ≤ w.heap.size + 1 + 1 by omega) (.string a1)).setCell (p := ⟨w.heap.size + 1 + 1, 4, none⟩) (show w.heap.size ≤ w.heap.size + 1 + 1 by omega) (.string b1)
      clear hHeld e1 e2 hM hO hf
      go_wp2
      go_roundw
      case rel => exact ⟨2, by omega, by go_num, hD2, hR2, hO2, hB2⟩
      case measure => simp [intOf]
    · simp only [if_neg (show ¬ (2 : Nat) = 0 by decide), if_true] at hM
      have h1 := hM.o
      have h2 := hM.r
      have hE := setRow_heap wr (w.heap.size + 1) _ #[.int .i64 sz, .string a0, .string b0, .string a1, .string b1, .bool dn, .int .i64 fu, .int .i64 kp] _ _ h2
      have hB2 := Whole.row_below hM.b (Nat.le_succ _) #[.int .i64 sz, .string a0, .string b0, .string a1, .string b1, .bool dn, .int .i64 fu, .int .i64 kp]
      clear hM
      go_wp2_with (first | (refine Whole.load wr rfl _ 31 rfl _ _ _ rfl h1 Try.underlying31 rfl szR ?_) | (refine Whole.store wr rfl rfl _ _ 31 rfl (w.heap.size + 1) _ #[.int .i64 sz, .string a0, .string b0, .string a1, .string b1, .bool dn, .int .i64 fu, .int .i64 kp] rfl rfl h2 szR rfl (one8 _ _ _ _ _ _ _ _) ?_))
      refine bodyPost_ret (v := .agg #[.int .i64 sz, .string a0, .string b0, .string a1, .string b1, .bool dn, .int .i64 fu, .int .i64 kp]) (Whole.result_one rfl _ Try.prog _ rfl hE Try.underlying31 rfl szR) rfl ⟨rfl, hB2⟩
end Go.Proofs.Ytoomanlonhnleaa.Disk
