/- Two caveats held against each other; of no function of the program. -/
import Derived.Test.YthopegokjbibmaaDoorMMath
import Derived.Laws.StructEq
namespace Go.Proofs.YthopegokjbibmaaDoor.Mac
open Go.RowKit

/-- Are two caveats the same? -/
def eqC (x y : Cav) : Bool := x.1 == y.1 && (x.2 : Int) == (y.2 : Int)
theorem eqC_self (x : Cav) : eqC x x = true := by unfold eqC; simp
theorem equal_cav (d : Nat) (x y : Cav) (w : World) :
    (Op.equalIn (d + 2) 27 (.agg #[.int .i64 x.1, .int .u64 (x.2 : Int)]) (.agg #[.int .i64 y.1, .int .u64 (y.2 : Int)])).run Tryd.prog w = .ok (eqC x y) w := by
  have hu : Tryd.prog.underlying 27 = some (.struct (Tryd.prog.fieldsOf 27)) := by kernel_rfl
  have p0 : ∀ a b : Int, (part 3 #[.int .i64 a, .int .u64 b] 0).run Tryd.prog w = .ok (.int .i64 a) w := fun _ _ => by kernel_rfl
  have p1 : ∀ a b : Int, (part 25 #[.int .i64 a, .int .u64 b] 1).run Tryd.prog w = .ok (.int .u64 b) w := fun _ _ => by kernel_rfl
  have he : ∀ a b : Int, (Op.equalIn (d + 1) 3 (.int .i64 a) (.int .i64 b)).run Tryd.prog w = .ok (a == b) w := fun a b => by simp [Op.equalIn, run_underlying Tryd.underlying3]
  have hf : ∀ a b : Int, (Op.equalIn (d + 1) 25 (.int .u64 a) (.int .u64 b)).run Tryd.prog w = .ok (a == b) w := fun a b => by simp [Op.equalIn, run_underlying Tryd.underlying25]
  rw [run_equalIn_struct w (d + 1) _ _ _ hu (by kernel_rfl)]
  obtain ⟨fs, hfs⟩ : ∃ fs, fs = (Tryd.prog.fieldsOf 27).toList := ⟨_, rfl⟩
  have h2 : ∃ f g, fs = [f, g] ∧ f.name ≠ "_" ∧ g.name ≠ "_" ∧ f.type = 3 ∧ g.type = 25 ∧ f.offset = 0 ∧ g.offset = 1 := by
    rw [hfs]
    exact ⟨(Tryd.prog.fieldsOf 27)[0]!, (Tryd.prog.fieldsOf 27)[1]!, by kernel_rfl, by decide +kernel, by decide +kernel, by kernel_rfl, by kernel_rfl, by kernel_rfl, by kernel_rfl⟩
  rw [← hfs]
  clear hfs hu
  obtain ⟨f, g, rfl, n1, n2, t1, t2, o1, o2⟩ := h2
  unfold eqC
  obtain ⟨r1, e1⟩ : ∃ r, (x.1 == y.1) = r := ⟨_, rfl⟩
  obtain ⟨r2, e2⟩ : ∃ r, ((x.2 : Int) == (y.2 : Int)) = r := ⟨_, rfl⟩
  simp only [Op.eqFields, if_pos n1, if_pos n2, t1, t2, o1, o2, Sem.run_bind, p0, he, Result.andThen_ok, e1, e2]
  cases r1 <;> simp only [Bool.not_false, Bool.not_true, if_true, if_false, Bool.false_eq_true, Sem.run_pure, Sem.run_bind, p1, hf, e2, Result.andThen_ok, Bool.false_and, Bool.true_and]
  cases r2 <;> simp only [Bool.not_false, Bool.not_true, if_true, if_false, Bool.false_eq_true, Sem.run_pure]
theorem eql_cav (x y : Cav) (w : World) : (binOp .eql 27 (.agg #[.int .i64 x.1, .int .u64 (x.2 : Int)]) (.agg #[.int .i64 y.1, .int .u64 (y.2 : Int)])).run Tryd.prog w = .ok (.bool (eqC x y)) w := by
  simp only [binOp]
  simp [Op.equal, Op.maxDepth, equal_cav 9998 x y w]
theorem neq_cav (x y : Cav) (w : World) : (binOp .neq 27 (.agg #[.int .i64 x.1, .int .u64 (x.2 : Int)]) (.agg #[.int .i64 y.1, .int .u64 (y.2 : Int)])).run Tryd.prog w = .ok (.bool (!eqC x y)) w := by
  simp only [binOp]
  simp [Op.equal, Op.maxDepth, equal_cav 9998 x y w]
end Go.Proofs.YthopegokjbibmaaDoor.Mac
