/- What the document's own New, Start, Arm, Used, Read, refused answer (demesneref09). -/
import Derived.Test.YtoomanlonhnleaaDCut
namespace Go.Proofs.Ytoomanlonhnleaa.Disk
open Go.RowKit

set_option maxHeartbeats 1000000 in
theorem new_ref (n : Int) (w : World) : Calls Try.prog 27 #[.int .i64 n] w fun e w' => e = .returned (valD (new n)) ∧ Below w.heap.size w w' := by
  unfold valD cellsD new
  dsimp only
  go_enter Try.func27, Try.ntmps27
  go_wp2
  refine bodyPost_ret (v := .agg #[.int .i64 n, .string ⟨#[]⟩, .string ⟨#[]⟩, .string ⟨#[]⟩, .string ⟨#[]⟩, .bool false, .int .i64 (-1), .int .i64 0]) (by simp [results, Try.results27, go_sem]) rfl ⟨rfl, ?_⟩
  repeat (first | exact Below.refl _ _ | assumption | refine Below.alloc ?_ ?_ _ | refine Below.setCell ?_ ?_ _ | refine Below.drew ?_)
  all_goals (simp; try omega)
set_option maxHeartbeats 1000000 in
theorem start_ref (v : Dk) (w : World) : Calls Try.prog 21 #[valD v] w fun e w' => e = .returned (valD (start v)) ∧ Below w.heap.size w w' := by
  obtain ⟨sz, ⟨a0, b0⟩, ⟨a1, b1⟩, dn, fu, kp⟩ := v
  unfold valD cellsD start
  dsimp only
  go_enter Try.func21, Try.ntmps21
  go_wp2
  refine bodyPost_ret (v := .agg #[.int .i64 sz, .string a0, .string b0, .string a1, .string b1, .bool false, .int .i64 fu, .int .i64 kp]) (by simp [results, Try.results21, go_sem]) rfl ⟨rfl, ?_⟩
  repeat (first | exact Below.refl _ _ | assumption | refine Below.alloc ?_ ?_ _ | refine Below.setCell ?_ ?_ _ | refine Below.drew ?_)
  all_goals (simp; try omega)
set_option maxHeartbeats 1000000 in
theorem arm_ref (v : Dk) (f k : Int) (w : World) : Calls Try.prog 19 #[valD v, .int .i64 f, .int .i64 k] w fun e w' => e = .returned (valD (arm v f k)) ∧ Below w.heap.size w w' := by
  obtain ⟨sz, ⟨a0, b0⟩, ⟨a1, b1⟩, dn, fu, kp⟩ := v
  unfold valD cellsD arm
  dsimp only
  have hm : ∃ m, (if f < 0 then -1 else f) = m ∧ ((f < 0 ∧ m = -1) ∨ (0 ≤ f ∧ m = f)) := by
    by_cases h : f < 0
    · exact ⟨-1, if_pos h, .inl ⟨h, rfl⟩⟩
    · exact ⟨f, if_neg h, .inr ⟨by omega, rfl⟩⟩
  obtain ⟨m, hm, hw⟩ := hm
  rw [hm]
  clear hm
  rcases hw with ⟨h, rfl⟩ | ⟨h, rfl⟩
  all_goals
    go_enter Try.func19, Try.ntmps19
    go_wp2
  case inl =>
    refine bodyPost_ret (v := .agg #[.int .i64 sz, .string a0, .string b0, .string a1, .string b1, .bool dn, .int .i64 (-1), .int .i64 k]) (by simp [results, Try.results19, go_sem]) rfl ⟨rfl, ?_⟩
    repeat (first | exact Below.refl _ _ | assumption | refine Below.alloc ?_ ?_ _ | refine Below.setCell ?_ ?_ _ | refine Below.drew ?_)
    all_goals (simp; try omega)
  case inr =>
    obtain rfl : f = -1 := by omega
    refine bodyPost_ret (v := .agg #[.int .i64 sz, .string a0, .string b0, .string a1, .string b1, .bool dn, .int .i64 (-1), .int .i64 k]) (by simp [results, Try.results19, go_sem]) rfl ⟨rfl, ?_⟩
    repeat (first | exact Below.refl _ _ | assumption | refine Below.alloc ?_ ?_ _ | refine Below.setCell ?_ ?_ _ | refine Below.drew ?_)
    all_goals (simp; try omega)
  refine bodyPost_ret (v := .agg #[.int .i64 sz, .string a0, .string b0, .string a1, .string b1, .bool dn, .int .i64 m, .int .i64 k]) (by simp [results, Try.results19, go_sem]) rfl ⟨rfl, ?_⟩
  repeat (first | exact Below.refl _ _ | assumption | refine Below.alloc ?_ ?_ _ | refine Below.setCell ?_ ?_ _ | refine Below.drew ?_)
  all_goals (simp; try omega)
set_option maxHeartbeats 1000000 in
theorem used_ref (v : Dk) (hv : used v ≤ 4611686018427387904) (w : World) : Calls Try.prog 23 #[valD v] w fun e w' => e = .returned (.int .i64 (used v)) ∧ Below w.heap.size w w' := by
  obtain ⟨sz, ⟨a0, b0⟩, ⟨a1, b1⟩, dn, fu, kp⟩ := v
  unfold used Fl.size at hv ⊢
  unfold valD cellsD
  dsimp only at hv ⊢
  have hz : (a0.size : Int) + b0.size + (a1.size + b1.size) ≤ 4611686018427387904 := by omega
  go_enter Try.func23, Try.ntmps23
  go_wp2
  go_ret
  refine ⟨?_, ?_⟩
  · simp
    omega
  · repeat (first | exact Below.refl _ _ | assumption | refine Below.alloc ?_ ?_ _ | refine Below.setCell ?_ ?_ _ | refine Below.drew ?_)
    all_goals (simp; try omega)
set_option maxHeartbeats 1000000 in
theorem read_ref (v : Dk) (hv : v.f0.size + v.f1.size ≤ 4611686018427387904) (f : Int) (w : World) : Calls Try.prog 25 #[valD v, .int .i64 f] w fun e w' => e = .returned (.string (read v f)) ∧ Below w.heap.size w w' := by
  obtain ⟨sz, ⟨a0, b0⟩, ⟨a1, b1⟩, dn, fu, kp⟩ := v
  unfold Fl.size at hv
  unfold valD cellsD
  unfold read Fl.all
  dsimp only at hv ⊢
  by_cases h0 : f = 0
  · subst h0
    rw [if_pos rfl]
    have hz : ¬ 9223372036854775807 < a0.size + b0.size := by omega
    clear hv
    go_enter Try.func25, Try.ntmps25
    go_wp2_with fail
    go_quiet (fail)
    go_wp2
    go_ret
    exact ⟨rfl, below_drewN (Boxes.old _ _) _⟩
  by_cases h1 : f = 1
  · subst h1
    rw [if_neg (by decide), if_pos rfl]
    have hz : ¬ 9223372036854775807 < a1.size + b1.size := by omega
    clear hv
    go_enter Try.func25, Try.ntmps25
    go_wp2_with fail
    go_quiet (fail)
    go_wp2
    go_ret
    exact ⟨rfl, below_drewN (Boxes.old _ _) _⟩
  · rw [if_neg h0, if_neg h1]
    have g0 : (f != 0) = true := by rw [bne_iff_ne]; exact h0
    have g1 : (f != 1) = true := by rw [bne_iff_ne]; exact h1
    go_enter Try.func25, Try.ntmps25
    go_wp2
    go_ret
    exact ⟨rfl, Boxes.old _ _⟩
set_option maxHeartbeats 1000000 in
theorem refused_ref (v : Dk) (f : Int) (w : World) : Calls Try.prog 32 #[valD v, .int .i64 f] w fun e w' => e = .returned (.int .i64 (refused v f)) ∧ Below w.heap.size w w' := by
  obtain ⟨sz, ⟨a0, b0⟩, ⟨a1, b1⟩, dn, fu, kp⟩ := v
  unfold valD cellsD refused
  dsimp only
  by_cases h0 : f = 0
  · subst h0
    rw [if_neg (by omega)]
    cases dn
    all_goals
      go_enter Try.func32, Try.ntmps32
      go_wp2
      go_ret
      exact ⟨rfl, Boxes.old _ _⟩
  by_cases h1 : f = 1
  · subst h1
    rw [if_neg (by omega)]
    cases dn
    all_goals
      go_enter Try.func32, Try.ntmps32
      go_wp2
      go_ret
      exact ⟨rfl, Boxes.old _ _⟩
  · rw [if_pos (by omega)]
    have g0 : (f != 0) = true := by rw [bne_iff_ne]; exact h0
    have g1 : (f != 1) = true := by rw [bne_iff_ne]; exact h1
    go_enter Try.func32, Try.ntmps32
    go_wp2
    go_ret
    exact ⟨rfl, Boxes.old _ _⟩
end Go.Proofs.Ytoomanlonhnleaa.Disk
