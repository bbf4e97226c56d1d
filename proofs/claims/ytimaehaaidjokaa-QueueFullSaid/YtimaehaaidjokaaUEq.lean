/- Two entries of a queue held against each other, of either type; of no function of the program. -/
import Derived.Test.YtimaehaaidjokaaURow
import Derived.Laws.StructEq
namespace Go.Proofs.Ytimaehaaidjokaa.Queue
open Go.RowKit

theorem below_drewN {B : Nat} {a w : World} (h : Below B a w) : ∀ n, Below B a (w.drewN n)
  | 0 => h
  | n + 1 => (below_drewN h n).drew
/-- Are two entries the same? -/
def eqE (x y : E) : Bool := (x.1 : Int) == (y.1 : Int) && x.2 == y.2
theorem eqE_iff (x y : E) : eqE x y = true ↔ x = y := by
  obtain ⟨a, b⟩ := x
  obtain ⟨c, d⟩ := y
  unfold eqE
  rw [Bool.and_eq_true, beq_iff_eq, beq_iff_eq, Prod.mk.injEq]
  simp only
  omega
theorem eqE_self (x : E) : eqE x x = true := (eqE_iff x x).2 rfl
theorem equal_any {T : TypeId} (hu : Try.prog.underlying T = some (.struct (Try.prog.fieldsOf T))) (hs : Try.prog.stoodInHeld T = false)
    (hf : ∃ f g, (Try.prog.fieldsOf T).toList = [f, g] ∧ f.name ≠ "_" ∧ g.name ≠ "_" ∧ f.type = 23 ∧ g.type = 3 ∧ f.offset = 0 ∧ g.offset = 1) (d : Nat) (x y : E) (w : World) :
    (Op.equalIn (d + 2) T (.agg #[.int .u64 (x.1 : Int), .int .i64 x.2]) (.agg #[.int .u64 (y.1 : Int), .int .i64 y.2])).run Try.prog w = .ok (eqE x y) w := by
  have p0 : ∀ a b : Int, (part 23 #[.int .u64 a, .int .i64 b] 0).run Try.prog w = .ok (.int .u64 a) w := fun _ _ => by kernel_rfl
  have p1 : ∀ a b : Int, (part 3 #[.int .u64 a, .int .i64 b] 1).run Try.prog w = .ok (.int .i64 b) w := fun _ _ => by kernel_rfl
  have he : ∀ a b : Int, (Op.equalIn (d + 1) 23 (.int .u64 a) (.int .u64 b)).run Try.prog w = .ok (a == b) w := fun a b => by simp [Op.equalIn, run_underlying Try.underlying23]
  have hf' : ∀ a b : Int, (Op.equalIn (d + 1) 3 (.int .i64 a) (.int .i64 b)).run Try.prog w = .ok (a == b) w := fun a b => by simp [Op.equalIn, run_underlying Try.underlying3]
  obtain ⟨f, g, hl, n1, n2, t1, t2, o1, o2⟩ := hf
  rw [run_equalIn_struct w (d + 1) _ _ _ hu hs, hl]
  unfold eqE
  obtain ⟨r1, e1⟩ : ∃ r, ((x.1 : Int) == (y.1 : Int)) = r := ⟨_, rfl⟩
  obtain ⟨r2, e2⟩ : ∃ r, (x.2 == y.2) = r := ⟨_, rfl⟩
  simp only [Op.eqFields, if_pos n1, if_pos n2, t1, t2, o1, o2, Sem.run_bind, p0, he, Result.andThen_ok, e1, e2]
  cases r1 <;> simp only [Bool.not_false, Bool.not_true, if_true, if_false, Bool.false_eq_true, Sem.run_pure, Sem.run_bind, p1, hf', e2, Result.andThen_ok, Bool.false_and, Bool.true_and]
  cases r2 <;> simp only [Bool.not_false, Bool.not_true, if_true, if_false, Bool.false_eq_true, Sem.run_pure]
theorem equal_e (d : Nat) (x y : E) (w : World) : (Op.equalIn (d + 2) 25 (.agg #[.int .u64 (x.1 : Int), .int .i64 x.2]) (.agg #[.int .u64 (y.1 : Int), .int .i64 y.2])).run Try.prog w = .ok (eqE x y) w :=
  equal_any (by kernel_rfl) (by kernel_rfl)
    ⟨(Try.prog.fieldsOf 25)[0]!, (Try.prog.fieldsOf 25)[1]!, by kernel_rfl, by decide +kernel, by decide +kernel, by kernel_rfl, by kernel_rfl, by kernel_rfl, by kernel_rfl⟩ d x y w
theorem equal_r (d : Nat) (x y : E) (w : World) : (Op.equalIn (d + 2) 34 (.agg #[.int .u64 (x.1 : Int), .int .i64 x.2]) (.agg #[.int .u64 (y.1 : Int), .int .i64 y.2])).run Try.prog w = .ok (eqE x y) w :=
  equal_any (by kernel_rfl) (by kernel_rfl)
    ⟨(Try.prog.fieldsOf 34)[0]!, (Try.prog.fieldsOf 34)[1]!, by kernel_rfl, by decide +kernel, by decide +kernel, by kernel_rfl, by kernel_rfl, by kernel_rfl, by kernel_rfl⟩ d x y w
theorem eql_e (x y : E) (w : World) : (binOp .eql 25 (.agg #[.int .u64 (x.1 : Int), .int .i64 x.2]) (.agg #[.int .u64 (y.1 : Int), .int .i64 y.2])).run Try.prog w = .ok (.bool (eqE x y)) w := by
  simp only [binOp]
  simp [Op.equal, Op.maxDepth, equal_e 9998 x y w]
theorem neq_e (x y : E) (w : World) : (binOp .neq 25 (.agg #[.int .u64 (x.1 : Int), .int .i64 x.2]) (.agg #[.int .u64 (y.1 : Int), .int .i64 y.2])).run Try.prog w = .ok (.bool (!eqE x y)) w := by
  simp only [binOp]
  simp [Op.equal, Op.maxDepth, equal_e 9998 x y w]
theorem neq_r (x y : E) (w : World) : (binOp .neq 34 (.agg #[.int .u64 (x.1 : Int), .int .i64 x.2]) (.agg #[.int .u64 (y.1 : Int), .int .i64 y.2])).run Try.prog w = .ok (.bool (!eqE x y)) w := by
  simp only [binOp]
  simp [Op.equal, Op.maxDepth, equal_r 9998 x y w]
end Go.Proofs.Ytimaehaaidjokaa.Queue
