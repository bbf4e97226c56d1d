/- What vec.each does with whatever function is handed in: it hands it the four amounts in order, till it says no. Two amounts of four are the same just if each is. -/
import Derived.Test.YtaljedficmpjpaaDoorProg
import Derived.WalkKit
import Derived.WalkSpells
import Derived.WalkLawsBesides
import Derived.Lib.Hide
import Derived.ChangeKeysEq
namespace Go.Proofs.YtaljedficmpjpaaDoor.Vec
open Go.RowKit

/-- Four amounts as a value. -/
def vec (a b c d : Int) : Value := .agg #[.int .u64 a, .int .u64 b, .int .u64 c, .int .u64 d]
/-- Four amounts in memory. -/
def box (a b c d : Int) : Obj := .cells #[.int .u64 a, .int .u64 b, .int .u64 c, .int .u64 d] 24

theorem index0 (x0 x1 x2 x3 : Int) (w : World) : (Instr.index 24 (.agg #[.int .u64 x0, .int .u64 x1, .int .u64 x2, .int .u64 x3]) (.int .i64 0)).run Tryd.prog w = .ok (.int .u64 x0) w := by kernel_rfl
theorem index1 (x0 x1 x2 x3 : Int) (w : World) : (Instr.index 24 (.agg #[.int .u64 x0, .int .u64 x1, .int .u64 x2, .int .u64 x3]) (.int .i64 1)).run Tryd.prog w = .ok (.int .u64 x1) w := by kernel_rfl
theorem index2 (x0 x1 x2 x3 : Int) (w : World) : (Instr.index 24 (.agg #[.int .u64 x0, .int .u64 x1, .int .u64 x2, .int .u64 x3]) (.int .i64 2)).run Tryd.prog w = .ok (.int .u64 x2) w := by kernel_rfl
theorem index3 (x0 x1 x2 x3 : Int) (w : World) : (Instr.index 24 (.agg #[.int .u64 x0, .int .u64 x1, .int .u64 x2, .int .u64 x3]) (.int .i64 3)).run Tryd.prog w = .ok (.int .u64 x3) w := by kernel_rfl

/-- Are two amounts the same, kind by kind? -/
def same (a0 a1 a2 a3 b0 b1 b2 b3 : Int) : Bool := a0 == b0 && a1 == b1 && a2 == b2 && a3 == b3
theorem equal_vec (d : Nat) (a0 a1 a2 a3 b0 b1 b2 b3 : Int) (w : World) :
    (Op.equalIn (d + 2) 24 (.agg #[.int .u64 a0, .int .u64 a1, .int .u64 a2, .int .u64 a3]) (.agg #[.int .u64 b0, .int .u64 b1, .int .u64 b2, .int .u64 b3])).run Tryd.prog w = .ok (same a0 a1 a2 a3 b0 b1 b2 b3) w := by
  have hu : Tryd.prog.underlying 24 = some (.array 4 22) := by kernel_rfl
  obtain ⟨i, hi⟩ : ∃ i, Tryd.prog.info? 22 = some i := Option.isSome_iff_exists.1 (by kernel_rfl)
  have hc : Tryd.prog.cellsOf 22 = 1 := by kernel_rfl
  have p0 : ∀ x0 x1 x2 x3 : Int, (part 22 #[.int .u64 x0, .int .u64 x1, .int .u64 x2, .int .u64 x3] 0).run Tryd.prog w = .ok (.int .u64 x0) w := fun _ _ _ _ => by kernel_rfl
  have p1 : ∀ x0 x1 x2 x3 : Int, (part 22 #[.int .u64 x0, .int .u64 x1, .int .u64 x2, .int .u64 x3] 1).run Tryd.prog w = .ok (.int .u64 x1) w := fun _ _ _ _ => by kernel_rfl
  have p2 : ∀ x0 x1 x2 x3 : Int, (part 22 #[.int .u64 x0, .int .u64 x1, .int .u64 x2, .int .u64 x3] 2).run Tryd.prog w = .ok (.int .u64 x2) w := fun _ _ _ _ => by kernel_rfl
  have p3 : ∀ x0 x1 x2 x3 : Int, (part 22 #[.int .u64 x0, .int .u64 x1, .int .u64 x2, .int .u64 x3] 3).run Tryd.prog w = .ok (.int .u64 x3) w := fun _ _ _ _ => by kernel_rfl
  have he : ∀ a b : Int, (Op.equalIn (d + 1) 22 (.int .u64 a) (.int .u64 b)).run Tryd.prog w = .ok (a == b) w := fun a b => run_equalIn_int w d 22 .u64 .u64 a b Tryd.underlying22
  rw [run_equalIn_array w (d + 1) _ _ hu hi, hc]
  have hr : List.range 4 = [0, 1, 2, 3] := rfl
  rw [hr]
  unfold same
  simp only [Op.eqItems, Sem.run_bind, Nat.mul_one, p0, he, Result.andThen_ok]
  obtain ⟨r0, e0⟩ : ∃ r, (a0 == b0) = r := ⟨_, rfl⟩
  obtain ⟨r1, e1⟩ : ∃ r, (a1 == b1) = r := ⟨_, rfl⟩
  obtain ⟨r2, e2⟩ : ∃ r, (a2 == b2) = r := ⟨_, rfl⟩
  obtain ⟨r3, e3⟩ : ∃ r, (a3 == b3) = r := ⟨_, rfl⟩
  rw [e0, e1, e2, e3]
  cases r0 <;> simp only [Bool.not_false, Bool.not_true, if_true, if_false, Bool.false_eq_true, Sem.run_pure, Sem.run_bind, p1, he, e1, Result.andThen_ok, Bool.false_and, Bool.true_and]
  cases r1 <;> simp only [Bool.not_false, Bool.not_true, if_true, if_false, Bool.false_eq_true, Sem.run_pure, Sem.run_bind, p2, he, e2, Result.andThen_ok, Bool.false_and, Bool.true_and]
  cases r2 <;> simp only [Bool.not_false, Bool.not_true, if_true, if_false, Bool.false_eq_true, Sem.run_pure, Sem.run_bind, p3, he, e3, Result.andThen_ok, Bool.false_and, Bool.true_and]
  cases r3 <;> simp only [Bool.not_false, Bool.not_true, if_true, if_false, Bool.false_eq_true, Sem.run_pure]
theorem same_refl (a0 a1 a2 a3 : Int) : same a0 a1 a2 a3 a0 a1 a2 a3 = true := by simp [same]
theorem same_iff {a0 a1 a2 a3 b0 b1 b2 b3 : Int} : same a0 a1 a2 a3 b0 b1 b2 b3 = true ↔ a0 = b0 ∧ a1 = b1 ∧ a2 = b2 ∧ a3 = b3 := by simp [same, and_assoc]

/-- One step: the function goes on, or says no. -/
def Step (Go : World → Prop) (No : World → Prop) (e : Ending) (w' : World) : Prop := (e = .returned (.bool true) ∧ Go w') ∨ (e = .returned (.bool false) ∧ No w')

set_option maxRecDepth 100000 in
set_option maxHeartbeats 1000000 in
theorem each_any (x0 x1 x2 x3 : Int) (f : FuncId) (cap : Array Value) (Inv : Nat → World → Prop) (Stop : World → Prop) (w : World)
    (hf : ∀ (args : Array Value) (w : World), (callFunc f args).run Tryd.prog w = .ok (.enter f args) w)
    (h0 : Inv 0 (w.alloc (box x0 x1 x2 x3)))
    (s0 : ∀ wr, Inv 0 wr → Calls Tryd.prog f (#[.int .i64 0, .int .u64 x0] ++ cap) wr (Step (Inv 1) Stop))
    (s1 : ∀ wr, Inv 1 wr → Calls Tryd.prog f (#[.int .i64 1, .int .u64 x1] ++ cap) wr (Step (Inv 2) Stop))
    (s2 : ∀ wr, Inv 2 wr → Calls Tryd.prog f (#[.int .i64 2, .int .u64 x2] ++ cap) wr (Step (Inv 3) Stop))
    (s3 : ∀ wr, Inv 3 wr → Calls Tryd.prog f (#[.int .i64 3, .int .u64 x3] ++ cap) wr (Step (Inv 4) Stop)) :
    Calls Tryd.prog 22 #[vec x0 x1 x2 x3, .func (.func f) #[] cap] w (Step (Inv 4) Stop) := by
  unfold vec
  have H0 := Lib.hid s0
  have H1 := Lib.hid s1
  have H2 := Lib.hid s2
  have H3 := Lib.hid s3
  clear s0 s1 s2 s3
  unfold box at h0
  have i0 := index0 x0 x1 x2 x3
  have i1 := index1 x0 x1 x2 x3
  have i2 := index2 x0 x1 x2 x3
  have i3 := index3 x0 x1 x2 x3
  go_enter Tryd.func22, Tryd.ntmps22
  go_wp2
  go_loopw [8] (fun i wr => ∃ k : Nat, k ≤ 4 ∧ i = .int .i64 k ∧ Inv k wr) (fun i _ => 4 - (intOf i).toNat)
  case atStart => exact ⟨0, by omega, rfl, h0⟩
  case round =>
    obtain ⟨k, hk, rfl, hi⟩ := hrel
    have hk' : k = 0 ∨ k = 1 ∨ k = 2 ∨ k = 3 ∨ k = 4 := by omega
    rcases hk' with rfl | rfl | rfl | rfl | rfl
    · go_wp2_with fail
      refine (H0.out _ hi).mono ?_
      rintro e w1 (⟨rfl, hgo⟩ | ⟨rfl, hno⟩)
      · go_wp2
        go_roundw
        case rel => exact ⟨1, by omega, rfl, hgo⟩
        case measure => simp [intOf]
      · go_wp2
        go_ret
        exact .inr ⟨rfl, hno⟩
    · go_wp2_with fail
      refine (H1.out _ hi).mono ?_
      rintro e w1 (⟨rfl, hgo⟩ | ⟨rfl, hno⟩)
      · go_wp2
        go_roundw
        case rel => exact ⟨2, by omega, rfl, hgo⟩
        case measure => simp [intOf]
      · go_wp2
        go_ret
        exact .inr ⟨rfl, hno⟩
    · go_wp2_with fail
      refine (H2.out _ hi).mono ?_
      rintro e w1 (⟨rfl, hgo⟩ | ⟨rfl, hno⟩)
      · go_wp2
        go_roundw
        case rel => exact ⟨3, by omega, rfl, hgo⟩
        case measure => simp [intOf]
      · go_wp2
        go_ret
        exact .inr ⟨rfl, hno⟩
    · go_wp2_with fail
      refine (H3.out _ hi).mono ?_
      rintro e w1 (⟨rfl, hgo⟩ | ⟨rfl, hno⟩)
      · go_wp2
        go_roundw
        case rel => exact ⟨4, by omega, rfl, hgo⟩
        case measure => simp [intOf]
      · go_wp2
        go_ret
        exact .inr ⟨rfl, hno⟩
    · go_wp2
      go_ret
      exact .inl ⟨rfl, hi⟩
end Go.Proofs.YtaljedficmpjpaaDoor.Vec
