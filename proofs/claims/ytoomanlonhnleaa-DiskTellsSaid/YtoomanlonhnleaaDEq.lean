/- Two files held against one another, and a disk against itself: the program's types and the document's; of no function of the program. -/
import Derived.Test.YtoomanlonhnleaaDFirst
namespace Go.Proofs.Ytoomanlonhnleaa.Disk
open Go.RowKit

/-- Are two files the same? -/
def eqF (x y : Fl) : Bool := x.hard.toList == y.hard.toList && x.soft.toList == y.soft.toList
theorem eqF_self (x : Fl) : eqF x x = true := by unfold eqF; simp
def valF (x : Fl) : Value := .agg #[.string x.hard, .string x.soft]

theorem equal_file_p (d : Nat) (x y : Fl) (w : World) :
    (Op.equalIn (d + 2) 23 (.agg #[.string x.hard, .string x.soft]) (.agg #[.string y.hard, .string y.soft])).run Try.prog w = .ok (eqF x y) w := by
  have hu : Try.prog.underlying 23 = some (.struct (Try.prog.fieldsOf 23)) := by kernel_rfl
  have p0 : ∀ a b : ByteArray, (part 9 #[.string a, .string b] 0).run Try.prog w = .ok (.string a) w := fun _ _ => by kernel_rfl
  have p1 : ∀ a b : ByteArray, (part 9 #[.string a, .string b] 1).run Try.prog w = .ok (.string b) w := fun _ _ => by kernel_rfl
  have he : ∀ a b : ByteArray, (Op.equalIn (d + 1) 9 (.string a) (.string b)).run Try.prog w = .ok (a.toList == b.toList) w := fun a b => by simp [Op.equalIn, run_underlying Try.underlying9, beq_toListBytes]
  rw [run_equalIn_struct w (d + 1) _ _ _ hu (by kernel_rfl)]
  obtain ⟨fs, hfs⟩ : ∃ fs, fs = (Try.prog.fieldsOf 23).toList := ⟨_, rfl⟩
  have h2 : ∃ f g, fs = [f, g] ∧ f.name ≠ "_" ∧ g.name ≠ "_" ∧ f.type = 9 ∧ g.type = 9 ∧ f.offset = 0 ∧ g.offset = 1 := by
    rw [hfs]
    exact ⟨(Try.prog.fieldsOf 23)[0]!, (Try.prog.fieldsOf 23)[1]!, by kernel_rfl, by decide +kernel, by decide +kernel, by kernel_rfl, by kernel_rfl, by kernel_rfl, by kernel_rfl⟩
  rw [← hfs]
  clear hfs hu
  obtain ⟨f, g, rfl, n1, n2, t1, t2, o1, o2⟩ := h2
  unfold eqF
  obtain ⟨r1, e1⟩ : ∃ r, (x.hard.toList == y.hard.toList) = r := ⟨_, rfl⟩
  obtain ⟨r2, e2⟩ : ∃ r, (x.soft.toList == y.soft.toList) = r := ⟨_, rfl⟩
  simp only [Op.eqFields, if_pos n1, if_pos n2, t1, t2, o1, o2, Sem.run_bind, p0, he, Result.andThen_ok, e1, e2]
  cases r1 <;> simp only [Bool.not_false, Bool.not_true, if_true, if_false, Bool.false_eq_true, Sem.run_pure, Sem.run_bind, p1, he, e2, Result.andThen_ok, Bool.false_and, Bool.true_and]
  cases r2 <;> simp only [Bool.not_false, Bool.not_true, if_true, if_false, Bool.false_eq_true, Sem.run_pure]
theorem eql_file_p (x y : Fl) (w : World) : (binOp .eql 23 (.agg #[.string x.hard, .string x.soft]) (.agg #[.string y.hard, .string y.soft])).run Try.prog w = .ok (.bool (eqF x y)) w := by
  simp only [binOp]
  simp [Op.equal, Op.maxDepth, equal_file_p 9998 x y w]
theorem equal_files_p (d : Nat) (x y : Fl) (w : World) :
    (Op.equalIn (d + 3) 24 (.agg #[.string x.hard, .string x.soft, .string y.hard, .string y.soft]) (.agg #[.string x.hard, .string x.soft, .string y.hard, .string y.soft])).run Try.prog w = .ok true w := by
  have hu : Try.prog.underlying 24 = some (.array 2 23) := by kernel_rfl
  obtain ⟨i, hi⟩ : ∃ i, Try.prog.info? 23 = some i := Option.isSome_iff_exists.1 (by kernel_rfl)
  have hc : Try.prog.cellsOf 23 = 2 := by kernel_rfl
  have p0 : ∀ a b c e : ByteArray, (part 23 #[.string a, .string b, .string c, .string e] 0).run Try.prog w = .ok (.agg #[.string a, .string b]) w := fun _ _ _ _ => by kernel_rfl
  have p1 : ∀ a b c e : ByteArray, (part 23 #[.string a, .string b, .string c, .string e] 2).run Try.prog w = .ok (.agg #[.string c, .string e]) w := fun _ _ _ _ => by kernel_rfl
  rw [run_equalIn_array w (d + 2) _ _ hu hi, hc, show List.range 2 = [0, 1] from rfl]
  simp only [Op.eqItems, Sem.run_bind, Nat.zero_mul, Nat.one_mul, p0, p1, equal_file_p d, eqF_self, Result.andThen_ok, Bool.not_true, if_false, Bool.false_eq_true, Sem.run_pure]
theorem equal_disk_p (d : Nat) (x : Dk) (w : World) : (Op.equalIn (d + 4) 26 (valD x) (valD x)).run Try.prog w = .ok true w := by
  obtain ⟨sz, ⟨a0, b0⟩, ⟨a1, b1⟩, dn, fu, kp⟩ := x
  unfold valD cellsD
  dsimp only
  have hu : Try.prog.underlying 26 = some (.struct (Try.prog.fieldsOf 26)) := by kernel_rfl
  have q0 : (part 3 #[.int .i64 sz, .string a0, .string b0, .string a1, .string b1, .bool dn, .int .i64 fu, .int .i64 kp] 0).run Try.prog w = .ok (.int .i64 sz) w := by kernel_rfl
  have q1 : (part 24 #[.int .i64 sz, .string a0, .string b0, .string a1, .string b1, .bool dn, .int .i64 fu, .int .i64 kp] 1).run Try.prog w = .ok (.agg #[.string a0, .string b0, .string a1, .string b1]) w := by kernel_rfl
  have q2 : (part 4 #[.int .i64 sz, .string a0, .string b0, .string a1, .string b1, .bool dn, .int .i64 fu, .int .i64 kp] 5).run Try.prog w = .ok (.bool dn) w := by kernel_rfl
  have q3 : (part 3 #[.int .i64 sz, .string a0, .string b0, .string a1, .string b1, .bool dn, .int .i64 fu, .int .i64 kp] 6).run Try.prog w = .ok (.int .i64 fu) w := by kernel_rfl
  have q4 : (part 3 #[.int .i64 sz, .string a0, .string b0, .string a1, .string b1, .bool dn, .int .i64 fu, .int .i64 kp] 7).run Try.prog w = .ok (.int .i64 kp) w := by kernel_rfl
  have hi : ∀ a : Int, (Op.equalIn (d + 3) 3 (.int .i64 a) (.int .i64 a)).run Try.prog w = .ok true w := fun a => by rw [run_equalIn_int w (d + 2) 3 .i64 .i64 a a Try.underlying3, beq_self_eq_true]
  have hb : (Op.equalIn (d + 3) 4 (.bool dn) (.bool dn)).run Try.prog w = .ok true w := by rw [run_equalIn_bool w (d + 2) 4 dn dn Try.underlying4, beq_self_eq_true]
  have hf := equal_files_p d ⟨a0, b0⟩ ⟨a1, b1⟩ w
  dsimp only at hf
  rw [run_equalIn_struct w (d + 3) _ _ _ hu (by kernel_rfl)]
  obtain ⟨fs, hfs⟩ : ∃ fs, fs = (Try.prog.fieldsOf 26).toList := ⟨_, rfl⟩
  have h2 : ∃ f0 f1 f2 f3 f4, fs = [f0, f1, f2, f3, f4] ∧ (f0.name ≠ "_" ∧ f1.name ≠ "_" ∧ f2.name ≠ "_" ∧ f3.name ≠ "_" ∧ f4.name ≠ "_") ∧
      (f0.type = 3 ∧ f1.type = 24 ∧ f2.type = 4 ∧ f3.type = 3 ∧ f4.type = 3) ∧ f0.offset = 0 ∧ f1.offset = 1 ∧ f2.offset = 5 ∧ f3.offset = 6 ∧ f4.offset = 7 := by
    rw [hfs]
    exact ⟨(Try.prog.fieldsOf 26)[0]!, (Try.prog.fieldsOf 26)[1]!, (Try.prog.fieldsOf 26)[2]!, (Try.prog.fieldsOf 26)[3]!, (Try.prog.fieldsOf 26)[4]!, by kernel_rfl,
      ⟨by decide +kernel, by decide +kernel, by decide +kernel, by decide +kernel, by decide +kernel⟩, ⟨by kernel_rfl, by kernel_rfl, by kernel_rfl, by kernel_rfl, by kernel_rfl⟩, by kernel_rfl, by kernel_rfl, by kernel_rfl, by kernel_rfl, by kernel_rfl⟩
  rw [← hfs]
  clear hfs hu
  obtain ⟨f0, f1, f2, f3, f4, rfl, ⟨n0, n1, n2, n3, n4⟩, ⟨t0, t1, t2, t3, t4⟩, o0, o1, o2, o3, o4⟩ := h2
  simp only [Op.eqFields, if_pos n0, if_pos n1, if_pos n2, if_pos n3, if_pos n4, t0, t1, t2, t3, t4, o0, o1, o2, o3, o4, Sem.run_bind, q0, q1, q2, q3, q4, hi, hb, hf, Result.andThen_ok, Bool.not_true, if_false, Bool.false_eq_true, Sem.run_pure]
theorem eql_disk_p (x : Dk) (w : World) : (binOp .eql 26 (valD x) (valD x)).run Try.prog w = .ok (.bool true) w := by
  have := equal_disk_p 9996 x w
  unfold valD at this ⊢
  simp only [binOp]
  simp [Op.equal, Op.maxDepth, this]
theorem neq_disk_p (x : Dk) (w : World) : (binOp .neq 26 (valD x) (valD x)).run Try.prog w = .ok (.bool false) w := by
  have := equal_disk_p 9996 x w
  unfold valD at this ⊢
  simp only [binOp]
  simp [Op.equal, Op.maxDepth, this]

theorem equal_file_r (d : Nat) (x y : Fl) (w : World) :
    (Op.equalIn (d + 2) 28 (.agg #[.string x.hard, .string x.soft]) (.agg #[.string y.hard, .string y.soft])).run Try.prog w = .ok (eqF x y) w := by
  have hu : Try.prog.underlying 28 = some (.struct (Try.prog.fieldsOf 28)) := by kernel_rfl
  have p0 : ∀ a b : ByteArray, (part 9 #[.string a, .string b] 0).run Try.prog w = .ok (.string a) w := fun _ _ => by kernel_rfl
  have p1 : ∀ a b : ByteArray, (part 9 #[.string a, .string b] 1).run Try.prog w = .ok (.string b) w := fun _ _ => by kernel_rfl
  have he : ∀ a b : ByteArray, (Op.equalIn (d + 1) 9 (.string a) (.string b)).run Try.prog w = .ok (a.toList == b.toList) w := fun a b => by simp [Op.equalIn, run_underlying Try.underlying9, beq_toListBytes]
  rw [run_equalIn_struct w (d + 1) _ _ _ hu (by kernel_rfl)]
  obtain ⟨fs, hfs⟩ : ∃ fs, fs = (Try.prog.fieldsOf 28).toList := ⟨_, rfl⟩
  have h2 : ∃ f g, fs = [f, g] ∧ f.name ≠ "_" ∧ g.name ≠ "_" ∧ f.type = 9 ∧ g.type = 9 ∧ f.offset = 0 ∧ g.offset = 1 := by
    rw [hfs]
    exact ⟨(Try.prog.fieldsOf 28)[0]!, (Try.prog.fieldsOf 28)[1]!, by kernel_rfl, by decide +kernel, by decide +kernel, by kernel_rfl, by kernel_rfl, by kernel_rfl, by kernel_rfl⟩
  rw [← hfs]
  clear hfs hu
  obtain ⟨f, g, rfl, n1, n2, t1, t2, o1, o2⟩ := h2
  unfold eqF
  obtain ⟨r1, e1⟩ : ∃ r, (x.hard.toList == y.hard.toList) = r := ⟨_, rfl⟩
  obtain ⟨r2, e2⟩ : ∃ r, (x.soft.toList == y.soft.toList) = r := ⟨_, rfl⟩
  simp only [Op.eqFields, if_pos n1, if_pos n2, t1, t2, o1, o2, Sem.run_bind, p0, he, Result.andThen_ok, e1, e2]
  cases r1 <;> simp only [Bool.not_false, Bool.not_true, if_true, if_false, Bool.false_eq_true, Sem.run_pure, Sem.run_bind, p1, he, e2, Result.andThen_ok, Bool.false_and, Bool.true_and]
  cases r2 <;> simp only [Bool.not_false, Bool.not_true, if_true, if_false, Bool.false_eq_true, Sem.run_pure]
theorem eql_file_r (x y : Fl) (w : World) : (binOp .eql 28 (.agg #[.string x.hard, .string x.soft]) (.agg #[.string y.hard, .string y.soft])).run Try.prog w = .ok (.bool (eqF x y)) w := by
  simp only [binOp]
  simp [Op.equal, Op.maxDepth, equal_file_r 9998 x y w]
theorem equal_files_r (d : Nat) (x y : Fl) (w : World) :
    (Op.equalIn (d + 3) 29 (.agg #[.string x.hard, .string x.soft, .string y.hard, .string y.soft]) (.agg #[.string x.hard, .string x.soft, .string y.hard, .string y.soft])).run Try.prog w = .ok true w := by
  have hu : Try.prog.underlying 29 = some (.array 2 28) := by kernel_rfl
  obtain ⟨i, hi⟩ : ∃ i, Try.prog.info? 28 = some i := Option.isSome_iff_exists.1 (by kernel_rfl)
  have hc : Try.prog.cellsOf 28 = 2 := by kernel_rfl
  have p0 : ∀ a b c e : ByteArray, (part 28 #[.string a, .string b, .string c, .string e] 0).run Try.prog w = .ok (.agg #[.string a, .string b]) w := fun _ _ _ _ => by kernel_rfl
  have p1 : ∀ a b c e : ByteArray, (part 28 #[.string a, .string b, .string c, .string e] 2).run Try.prog w = .ok (.agg #[.string c, .string e]) w := fun _ _ _ _ => by kernel_rfl
  rw [run_equalIn_array w (d + 2) _ _ hu hi, hc, show List.range 2 = [0, 1] from rfl]
  simp only [Op.eqItems, Sem.run_bind, Nat.zero_mul, Nat.one_mul, p0, p1, equal_file_r d, eqF_self, Result.andThen_ok, Bool.not_true, if_false, Bool.false_eq_true, Sem.run_pure]
theorem equal_disk_r (d : Nat) (x : Dk) (w : World) : (Op.equalIn (d + 4) 31 (valD x) (valD x)).run Try.prog w = .ok true w := by
  obtain ⟨sz, ⟨a0, b0⟩, ⟨a1, b1⟩, dn, fu, kp⟩ := x
  unfold valD cellsD
  dsimp only
  have hu : Try.prog.underlying 31 = some (.struct (Try.prog.fieldsOf 31)) := by kernel_rfl
  have q0 : (part 3 #[.int .i64 sz, .string a0, .string b0, .string a1, .string b1, .bool dn, .int .i64 fu, .int .i64 kp] 0).run Try.prog w = .ok (.int .i64 sz) w := by kernel_rfl
  have q1 : (part 29 #[.int .i64 sz, .string a0, .string b0, .string a1, .string b1, .bool dn, .int .i64 fu, .int .i64 kp] 1).run Try.prog w = .ok (.agg #[.string a0, .string b0, .string a1, .string b1]) w := by kernel_rfl
  have q2 : (part 4 #[.int .i64 sz, .string a0, .string b0, .string a1, .string b1, .bool dn, .int .i64 fu, .int .i64 kp] 5).run Try.prog w = .ok (.bool dn) w := by kernel_rfl
  have q3 : (part 3 #[.int .i64 sz, .string a0, .string b0, .string a1, .string b1, .bool dn, .int .i64 fu, .int .i64 kp] 6).run Try.prog w = .ok (.int .i64 fu) w := by kernel_rfl
  have q4 : (part 3 #[.int .i64 sz, .string a0, .string b0, .string a1, .string b1, .bool dn, .int .i64 fu, .int .i64 kp] 7).run Try.prog w = .ok (.int .i64 kp) w := by kernel_rfl
  have hi : ∀ a : Int, (Op.equalIn (d + 3) 3 (.int .i64 a) (.int .i64 a)).run Try.prog w = .ok true w := fun a => by rw [run_equalIn_int w (d + 2) 3 .i64 .i64 a a Try.underlying3, beq_self_eq_true]
  have hb : (Op.equalIn (d + 3) 4 (.bool dn) (.bool dn)).run Try.prog w = .ok true w := by rw [run_equalIn_bool w (d + 2) 4 dn dn Try.underlying4, beq_self_eq_true]
  have hf := equal_files_r d ⟨a0, b0⟩ ⟨a1, b1⟩ w
  dsimp only at hf
  rw [run_equalIn_struct w (d + 3) _ _ _ hu (by kernel_rfl)]
  obtain ⟨fs, hfs⟩ : ∃ fs, fs = (Try.prog.fieldsOf 31).toList := ⟨_, rfl⟩
  have h2 : ∃ f0 f1 f2 f3 f4, fs = [f0, f1, f2, f3, f4] ∧ (f0.name ≠ "_" ∧ f1.name ≠ "_" ∧ f2.name ≠ "_" ∧ f3.name ≠ "_" ∧ f4.name ≠ "_") ∧
      (f0.type = 3 ∧ f1.type = 29 ∧ f2.type = 4 ∧ f3.type = 3 ∧ f4.type = 3) ∧ f0.offset = 0 ∧ f1.offset = 1 ∧ f2.offset = 5 ∧ f3.offset = 6 ∧ f4.offset = 7 := by
    rw [hfs]
    exact ⟨(Try.prog.fieldsOf 31)[0]!, (Try.prog.fieldsOf 31)[1]!, (Try.prog.fieldsOf 31)[2]!, (Try.prog.fieldsOf 31)[3]!, (Try.prog.fieldsOf 31)[4]!, by kernel_rfl,
      ⟨by decide +kernel, by decide +kernel, by decide +kernel, by decide +kernel, by decide +kernel⟩, ⟨by kernel_rfl, by kernel_rfl, by kernel_rfl, by kernel_rfl, by kernel_rfl⟩, by kernel_rfl, by kernel_rfl, by kernel_rfl, by kernel_rfl, by kernel_rfl⟩
  rw [← hfs]
  clear hfs hu
  obtain ⟨f0, f1, f2, f3, f4, rfl, ⟨n0, n1, n2, n3, n4⟩, ⟨t0, t1, t2, t3, t4⟩, o0, o1, o2, o3, o4⟩ := h2
  simp only [Op.eqFields, if_pos n0, if_pos n1, if_pos n2, if_pos n3, if_pos n4, t0, t1, t2, t3, t4, o0, o1, o2, o3, o4, Sem.run_bind, q0, q1, q2, q3, q4, hi, hb, hf, Result.andThen_ok, Bool.not_true, if_false, Bool.false_eq_true, Sem.run_pure]
theorem eql_disk_r (x : Dk) (w : World) : (binOp .eql 31 (valD x) (valD x)).run Try.prog w = .ok (.bool true) w := by
  have := equal_disk_r 9996 x w
  unfold valD at this ⊢
  simp only [binOp]
  simp [Op.equal, Op.maxDepth, this]
theorem neq_disk_r (x : Dk) (w : World) : (binOp .neq 31 (valD x) (valD x)).run Try.prog w = .ok (.bool false) w := by
  have := equal_disk_r 9996 x w
  unfold valD at this ⊢
  simp only [binOp]
  simp [Op.equal, Op.maxDepth, this]
end Go.Proofs.Ytoomanlonhnleaa.Disk
