/- What disk.New, Start, Arm, Used, Read and Crash answer. -/
import Derived.Test.YtoomanlonhnleaaDHard
namespace Go.Proofs.Ytoomanlonhnleaa.Disk
open Go.RowKit

theorem below_drewN {B : Nat} {a w : World} (h : Below B a w) : ∀ n, Below B a (w.drewN n)
  | 0 => h
  | n + 1 => (below_drewN h n).drew
theorem idx0 (a b c d : Value) (w : World) : (Instr.index 24 (.agg #[a, b, c, d]) (.int .i64 0)).run Try.prog w = .ok (.agg #[a, b]) w := by kernel_rfl
theorem idx1 (a b c d : Value) (w : World) : (Instr.index 24 (.agg #[a, b, c, d]) (.int .i64 1)).run Try.prog w = .ok (.agg #[c, d]) w := by kernel_rfl
set_option maxHeartbeats 1000000 in
theorem new_any (n : Int) (w : World) : Calls Try.prog 26 #[.int .i64 n] w fun e w' => e = .returned (valD (new n)) ∧ Below w.heap.size w w' := by
  unfold valD cellsD new
  dsimp only
  go_enter Try.func26, Try.ntmps26
  go_wp2
  refine bodyPost_ret (v := .agg #[.int .i64 n, .string ⟨#[]⟩, .string ⟨#[]⟩, .string ⟨#[]⟩, .string ⟨#[]⟩, .bool false, .int .i64 (-1), .int .i64 0]) (by simp [results, Try.results26, go_sem]) rfl ⟨rfl, ?_⟩
  repeat (first | exact Below.refl _ _ | assumption | refine Below.alloc ?_ ?_ _ | refine Below.setCell ?_ ?_ _ | refine Below.drew ?_)
  all_goals (simp; try omega)
set_option maxHeartbeats 1000000 in
theorem start_any (v : Dk) (w : World) : Calls Try.prog 20 #[valD v] w fun e w' => e = .returned (valD (start v)) ∧ Below w.heap.size w w' := by
  obtain ⟨sz, ⟨a0, b0⟩, ⟨a1, b1⟩, dn, fu, kp⟩ := v
  unfold valD cellsD start
  dsimp only
  go_enter Try.func20, Try.ntmps20
  go_wp2
  refine bodyPost_ret (v := .agg #[.int .i64 sz, .string a0, .string b0, .string a1, .string b1, .bool false, .int .i64 fu, .int .i64 kp]) (by simp [results, Try.results20, go_sem]) rfl ⟨rfl, ?_⟩
  repeat (first | exact Below.refl _ _ | assumption | refine Below.alloc ?_ ?_ _ | refine Below.setCell ?_ ?_ _ | refine Below.drew ?_)
  all_goals (simp; try omega)
set_option maxHeartbeats 1000000 in
theorem arm_any (v : Dk) (f k : Int) (w : World) : Calls Try.prog 18 #[valD v, .int .i64 f, .int .i64 k] w fun e w' => e = .returned (valD (arm v f k)) ∧ Below w.heap.size w w' := by
  obtain ⟨sz, ⟨a0, b0⟩, ⟨a1, b1⟩, dn, fu, kp⟩ := v
  unfold valD cellsD arm
  dsimp only
  have hm : ∃ m, (if f < 0 then -1 else f) = m ∧ ((f < 0 ∧ m = -1) ∨ (0 ≤ f ∧ m = f)) := by
    by_cases h : f < 0
    · exact ⟨-1, if_pos h, .inl ⟨h, rfl⟩⟩
    · exact ⟨f, if_neg h, .inr ⟨by omega, rfl⟩⟩
  obtain ⟨m, hm, hw⟩ := hm
  rw [hm]
  clear hm
  rcases hw with ⟨h, rfl⟩ | ⟨h, rfl⟩
  all_goals
    go_enter Try.func18, Try.ntmps18
    go_wp2
  case inl =>
    refine bodyPost_ret (v := .agg #[.int .i64 sz, .string a0, .string b0, .string a1, .string b1, .bool dn, .int .i64 (-1), .int .i64 k]) (by simp [results, Try.results18, go_sem]) rfl ⟨rfl, ?_⟩
    repeat (first | exact Below.refl _ _ | assumption | refine Below.alloc ?_ ?_ _ | refine Below.setCell ?_ ?_ _ | refine Below.drew ?_)
    all_goals (simp; try omega)
  case inr =>
    obtain rfl : f = -1 := by omega
    refine bodyPost_ret (v := .agg #[.int .i64 sz, .string a0, .string b0, .string a1, .string b1, .bool dn, .int .i64 (-1), .int .i64 k]) (by simp [results, Try.results18, go_sem]) rfl ⟨rfl, ?_⟩
    repeat (first | exact Below.refl _ _ | assumption | refine Below.alloc ?_ ?_ _ | refine Below.setCell ?_ ?_ _ | refine Below.drew ?_)
    all_goals (simp; try omega)
  refine bodyPost_ret (v := .agg #[.int .i64 sz, .string a0, .string b0, .string a1, .string b1, .bool dn, .int .i64 m, .int .i64 k]) (by simp [results, Try.results18, go_sem]) rfl ⟨rfl, ?_⟩
  repeat (first | exact Below.refl _ _ | assumption | refine Below.alloc ?_ ?_ _ | refine Below.setCell ?_ ?_ _ | refine Below.drew ?_)
  all_goals (simp; try omega)
set_option maxHeartbeats 1000000 in
theorem read_any (v : Dk) (hv : v.f0.size + v.f1.size ≤ 4611686018427387904) (f : Int) (w : World) : Calls Try.prog 24 #[valD v, .int .i64 f] w fun e w' => e = .returned (.string (read v f)) ∧ Below w.heap.size w w' := by
  have HH := Lib.hid (has_any v f)
  obtain ⟨sz, ⟨a0, b0⟩, ⟨a1, b1⟩, dn, fu, kp⟩ := v
  unfold Fl.size at hv
  unfold valD cellsD at HH ⊢
  unfold read Fl.all
  dsimp only at hv HH ⊢
  by_cases h0 : f = 0
  · subst h0
    rw [if_pos rfl]
    rw [show isFile 0 = true from rfl] at HH
    have hz : ¬ 9223372036854775807 < a0.size + b0.size := by omega
    clear hv
    go_enter Try.func24, Try.ntmps24
    go_wp2_with fail
    refine (HH.out _).mono ?_
    rintro e w1 ⟨rfl, hw⟩
    obtain ⟨_, c1, c2, c3, c4, _, _, _⟩ := cells8 (Boxes.keep (Boxes.fresh _ _) hw)
    have hb := (Boxes.old _ _).trans (hw.mono (Boxes.old _ _).size)
    clear hw
    go_wp2_with fail
    go_quiet (fail)
    go_wp2
    go_ret
    refine ⟨rfl, below_drewN hb _⟩
  by_cases h1 : f = 1
  · subst h1
    rw [if_neg (by decide), if_pos rfl]
    rw [show isFile 1 = true from rfl] at HH
    have hz : ¬ 9223372036854775807 < a1.size + b1.size := by omega
    clear hv
    go_enter Try.func24, Try.ntmps24
    go_wp2_with fail
    refine (HH.out _).mono ?_
    rintro e w1 ⟨rfl, hw⟩
    obtain ⟨_, c1, c2, c3, c4, _, _, _⟩ := cells8 (Boxes.keep (Boxes.fresh _ _) hw)
    have hb := (Boxes.old _ _).trans (hw.mono (Boxes.old _ _).size)
    clear hw
    go_wp2_with fail
    go_quiet (fail)
    go_wp2
    go_ret
    refine ⟨rfl, below_drewN hb _⟩
  · rw [if_neg h0, if_neg h1]
    rw [show isFile f = false from decide_eq_false (by omega)] at HH
    go_enter Try.func24, Try.ntmps24
    go_wp2_with fail
    refine (HH.out _).mono ?_
    rintro e w1 ⟨rfl, hw⟩
    have hb := (Boxes.old _ _).trans (hw.mono (Boxes.old _ _).size)
    go_wp2
    go_ret
    exact ⟨rfl, hb⟩
end Go.Proofs.Ytoomanlonhnleaa.Disk
