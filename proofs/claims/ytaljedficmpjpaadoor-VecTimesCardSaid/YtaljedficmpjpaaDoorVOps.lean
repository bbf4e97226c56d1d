/- vec's calls, each by two plain contracts, yes and no; and the tests of two amounts. -/
import Derived.Test.YtaljedficmpjpaaDoorVFour
namespace Go.Proofs.YtaljedficmpjpaaDoor.Vec
open Go.RowKit

theorem equal_vec' (a0 a1 a2 a3 b0 b1 b2 b3 : Int) (w : World) :
    (Op.equalIn 10000 24 (.agg #[.int .u64 a0, .int .u64 a1, .int .u64 a2, .int .u64 a3]) (.agg #[.int .u64 b0, .int .u64 b1, .int .u64 b2, .int .u64 b3])).run Tryd.prog w = .ok (same a0 a1 a2 a3 b0 b1 b2 b3) w := equal_vec 9998 a0 a1 a2 a3 b0 b1 b2 b3 w
theorem guard_vec : Tryd.prog.eqGuardType Tryd.prog.depth 24 = false := by kernel_rfl

/-- Are they the same? -/
def sameV (a b : Nat → Int) : Bool := same (a 0) (a 1) (a 2) (a 3) (b 0) (b 1) (b 2) (b 3)
theorem sameV_true {a b : Nat → Int} : sameV a b = true ↔ ∀ i, i < 4 → a i = b i := by
  unfold sameV
  rw [same_iff, four_all (p := fun i => a i = b i)]
theorem sameV_false {a b : Nat → Int} : sameV a b = false ↔ ¬ ∀ i, i < 4 → a i = b i := by rw [← sameV_true]; simp

/-- Nothing. -/
def zeroV : Nat → Int := fun _ => 0

theorem pure_add_yes {x y : Int} (hx : 0 ≤ x) (hy : 0 ≤ y) (h : x + y ≤ 18446744073709551615) : Pure2 20 x y (x + y) true := fun w => Num.add_yes x y hx hy h w
theorem pure_add_no {x y : Int} (hx : 0 ≤ x) (hy : 0 ≤ y) (hx' : x ≤ 18446744073709551615) (hy' : y ≤ 18446744073709551615) (h : 18446744073709551615 < x + y) : Pure2 20 x y 0 false := fun w => Num.add_no x y hx hy hx' hy' h w

/-- The sum, as wire tells it. -/
def addT (x y : Int) : Int := if x + y ≤ 18446744073709551615 then x + y else 0
def addB (x y : Int) : Bool := decide (x + y ≤ 18446744073709551615)
theorem pure_add {x y : Int} (hx : 0 ≤ x ∧ x ≤ 18446744073709551615) (hy : 0 ≤ y ∧ y ≤ 18446744073709551615) : Pure2 20 x y (addT x y) (addB x y) := by
  unfold addT addB
  by_cases h : x + y ≤ 18446744073709551615
  · rw [if_pos h, decide_eq_true h]; exact pure_add_yes hx.1 hy.1 h
  · rw [if_neg h, decide_eq_false h]; exact pure_add_no hx.1 hy.1 hx.2 hy.2 (by omega)
def subT (x y : Int) : Int := if y ≤ x then x - y else 0
def subB (x y : Int) : Bool := decide (y ≤ x)
theorem pure_sub {x y : Int} (hx : 0 ≤ x ∧ x ≤ 18446744073709551615) (hy : 0 ≤ y ∧ y ≤ 18446744073709551615) : Pure2 21 x y (subT x y) (subB x y) := by
  unfold subT subB
  by_cases h : y ≤ x
  · rw [if_pos h, decide_eq_true h]; exact fun w => Num.sub_yes x y hx.1 hy.1 hx.2 h w
  · rw [if_neg h, decide_eq_false h]; exact fun w => Num.sub_no x y (by omega) w
def mulT (x y : Int) : Int := if x * y ≤ 18446744073709551615 then x * y else 0
def mulB (x y : Int) : Bool := decide (x * y ≤ 18446744073709551615)
theorem pure_mul {x y : Int} (hx : 0 ≤ x ∧ x ≤ 18446744073709551615) (hy : 0 ≤ y ∧ y ≤ 18446744073709551615) : Pure2 29 x y (mulT x y) (mulB x y) := by
  obtain ⟨a, rfl⟩ := Int.eq_ofNat_of_zero_le hx.1
  obtain ⟨b, rfl⟩ := Int.eq_ofNat_of_zero_le hy.1
  unfold mulT mulB
  have e : (a : Int) * (b : Int) = ((a * b : Nat) : Int) := by simp
  rw [e]
  by_cases h : ((a * b : Nat) : Int) ≤ 18446744073709551615
  · rw [if_pos h, decide_eq_true h]; exact fun w => Num.mul_yes a b (by omega) (by omega) (by omega) w
  · rw [if_neg h, decide_eq_false h]; exact fun w => Num.mul_no a b (by omega) (by omega) (by omega) w

theorem add_yes (a b c : Nat → Int) (ha : InRange a) (hb : InRange b) (hc : InRange c) (h : ∀ i, i < 4 → c i = a i + b i) (w : World) :
    Calls Tryd.prog 9 #[vec (a 0) (a 1) (a 2) (a 3), vec (b 0) (b 1) (b 2) (b 3)] w fun e w' => e = .returned (.tuple #[vec (c 0) (c 1) (c 2) (c 3), .bool true]) ∧ Below w.heap.size w w' := by
  refine (add_four a b c (fun _ => true) (fun k hk => by rw [h k hk]; exact pure_add_yes (ha k hk).1 (hb k hk).1 (by have := (hc k hk).2; rw [h k hk] at this; exact this)) w).mono ?_
  rintro e w' ⟨(⟨_, he⟩ | ⟨⟨i, _, hf⟩, _⟩), hb⟩
  · exact ⟨he, hb⟩
  · simp at hf
theorem add_no (a b : Nat → Int) (ha : InRange a) (hb : InRange b) (h : ¬ ∀ i, i < 4 → a i + b i ≤ 18446744073709551615) (w : World) :
    Calls Tryd.prog 9 #[vec (a 0) (a 1) (a 2) (a 3), vec (b 0) (b 1) (b 2) (b 3)] w fun e w' => e = .returned (.tuple #[vec 0 0 0 0, .bool false]) ∧ Below w.heap.size w w' := by
  refine (add_four a b (fun i => addT (a i) (b i)) (fun i => addB (a i) (b i)) (fun k hk => pure_add (ha k hk) (hb k hk)) w).mono ?_
  rintro e w' ⟨(⟨hall, he⟩ | ⟨_, he⟩), hb⟩
  · exact absurd (fun i hi => of_decide_eq_true (hall i hi)) h
  · exact ⟨he, hb⟩
theorem sub_yes (a b c : Nat → Int) (ha : InRange a) (hb : InRange b) (hle : ∀ i, i < 4 → b i ≤ a i) (h : ∀ i, i < 4 → c i = a i - b i) (w : World) :
    Calls Tryd.prog 10 #[vec (a 0) (a 1) (a 2) (a 3), vec (b 0) (b 1) (b 2) (b 3)] w fun e w' => e = .returned (.tuple #[vec (c 0) (c 1) (c 2) (c 3), .bool true]) ∧ Below w.heap.size w w' := by
  refine (sub_four a b c (fun _ => true) (fun k hk => by rw [h k hk]; exact fun w => Num.sub_yes _ _ (ha k hk).1 (hb k hk).1 (ha k hk).2 (hle k hk) w) w).mono ?_
  rintro e w' ⟨(⟨_, he⟩ | ⟨⟨i, _, hf⟩, _⟩), hb⟩
  · exact ⟨he, hb⟩
  · simp at hf
theorem sub_no (a b : Nat → Int) (ha : InRange a) (hb : InRange b) (h : ¬ ∀ i, i < 4 → b i ≤ a i) (w : World) :
    Calls Tryd.prog 10 #[vec (a 0) (a 1) (a 2) (a 3), vec (b 0) (b 1) (b 2) (b 3)] w fun e w' => e = .returned (.tuple #[vec 0 0 0 0, .bool false]) ∧ Below w.heap.size w w' := by
  refine (sub_four a b (fun i => subT (a i) (b i)) (fun i => subB (a i) (b i)) (fun k hk => pure_sub (ha k hk) (hb k hk)) w).mono ?_
  rintro e w' ⟨(⟨hall, he⟩ | ⟨_, he⟩), hb⟩
  · exact absurd (fun i hi => of_decide_eq_true (hall i hi)) h
  · exact ⟨he, hb⟩
theorem times_yes (a c : Nat → Int) (n : Int) (ha : InRange a) (hn : 0 ≤ n ∧ n ≤ 18446744073709551615) (hc : InRange c) (h : ∀ i, i < 4 → c i = a i * n) (w : World) :
    Calls Tryd.prog 14 #[vec (a 0) (a 1) (a 2) (a 3), .int .u64 n] w fun e w' => e = .returned (.tuple #[vec (c 0) (c 1) (c 2) (c 3), .bool true]) ∧ Below w.heap.size w w' := by
  refine (times_four a c n (fun _ => true) (fun k hk => by
    have := pure_mul (ha k hk) hn
    have hck := (hc k hk).2
    rw [h k hk] at hck ⊢
    unfold mulT mulB at this
    rw [if_pos hck, decide_eq_true hck] at this
    exact this) w).mono ?_
  rintro e w' ⟨(⟨_, he⟩ | ⟨⟨i, _, hf⟩, _⟩), hb⟩
  · exact ⟨he, hb⟩
  · simp at hf
theorem times_no (a : Nat → Int) (n : Int) (ha : InRange a) (hn : 0 ≤ n ∧ n ≤ 18446744073709551615) (h : ¬ ∀ i, i < 4 → a i * n ≤ 18446744073709551615) (w : World) :
    Calls Tryd.prog 14 #[vec (a 0) (a 1) (a 2) (a 3), .int .u64 n] w fun e w' => e = .returned (.tuple #[vec 0 0 0 0, .bool false]) ∧ Below w.heap.size w w' := by
  refine (times_four a (fun i => mulT (a i) n) n (fun i => mulB (a i) n) (fun k hk => pure_mul (ha k hk) hn) w).mono ?_
  rintro e w' ⟨(⟨hall, he⟩ | ⟨_, he⟩), hb⟩
  · exact absurd (fun i hi => of_decide_eq_true (hall i hi)) h
  · exact ⟨he, hb⟩
end Go.Proofs.YtaljedficmpjpaaDoor.Vec
