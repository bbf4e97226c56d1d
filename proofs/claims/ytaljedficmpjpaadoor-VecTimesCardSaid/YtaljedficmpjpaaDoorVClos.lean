/- What the small functions that vec's Times, Fits, Order and Holds hand in do, each at one amount. -/
import Derived.Test.YtaljedficmpjpaaDoorVJoin
import Derived.RegionTactic
import Derived.ChangeAlike
namespace Go.Proofs.YtaljedficmpjpaaDoor.Vec
open Go.RowKit

set_option maxRecDepth 100000 in
set_option maxHeartbeats 1000000 in
theorem times1 (D k : Nat) (x n v : Int) (ok : Bool) (wr : World) (hd : wr.cell? ⟨D, 0, none⟩ = some (.int .u64 n)) (st : Pure2 29 x n v ok) :
    Calls Tryd.prog 28 #[.int .i64 k, .int .u64 x, .pointer (some ⟨D, 0, none⟩)] wr fun e w' => e = .returned (.tuple #[.int .u64 v, .bool ok]) ∧ wr = w' := by
  have HS := Lib.hid st
  clear st
  go_enter Tryd.func28, Tryd.ntmps28
  go_wp2_with fail
  refine (HS.out _).mono ?_
  rintro e w' ⟨rfl, rfl⟩
  go_wp2
  go_ret2
  exact ⟨rfl, rfl⟩

set_option maxRecDepth 100000 in
set_option maxHeartbeats 1000000 in
theorem fits1 (B k : Nat) (hk : k < 4) (x y : Int) (wr : World) (hb : wr.cell? ⟨B, k, none⟩ = some (.int .u64 y)) :
    Calls Tryd.prog 23 #[.int .i64 k, .int .u64 x, .pointer (some ⟨B, 0, none⟩)] wr fun e w' => e = .returned (.bool (decide (x ≤ y))) ∧ wr = w' := by
  have hk' : (k : Int) < 4 := by omega
  have hk0 : (0 : Int) ≤ (k : Int) := by omega
  go_enter Tryd.func23, Tryd.ntmps23
  go_wp2
  go_ret
  exact ⟨rfl, rfl⟩

/-- Which of two numbers is less. -/
def cmp (x y : Int) : Int := if x < y then -1 else if y < x then 1 else 0
set_option maxRecDepth 100000 in
set_option maxHeartbeats 1000000 in
theorem isnan (x : Int) (w : World) : Calls Tryd.prog 42 #[.int .u64 x] w fun e w' => e = .returned (.bool false) ∧ w = w' := by
  go_enter Tryd.func42, Tryd.ntmps42
  go_wp2
  go_ret
  exact ⟨by simp, rfl⟩
set_option maxRecDepth 100000 in
set_option maxHeartbeats 1000000 in
theorem compare (x y : Int) (w : World) : Calls Tryd.prog 25 #[.int .u64 x, .int .u64 y] w fun e w' => e = .returned (.int .i64 (cmp x y)) ∧ w = w' := by
  obtain ⟨r, hr⟩ : ∃ r, r = cmp x y := ⟨_, rfl⟩
  rw [← hr]
  have HR := Lib.hid hr
  clear hr
  by_cases h1 : x < y
  · obtain rfl : r = -1 := by rw [HR.out]; unfold cmp; rw [if_pos h1]
    go_enter Tryd.func25, Tryd.ntmps25
    go_wp2_with (go_at_call 42; (with_reducible refine (isnan _ _).mono ?_); rintro e w' ⟨rfl, rfl⟩)
    go_ret
    exact ⟨rfl, rfl⟩
  · by_cases h2 : y < x
    · obtain rfl : r = 1 := by rw [HR.out]; unfold cmp; rw [if_neg h1, if_pos h2]
      go_enter Tryd.func25, Tryd.ntmps25
      go_wp2_with (go_at_call 42; (with_reducible refine (isnan _ _).mono ?_); rintro e w' ⟨rfl, rfl⟩)
      go_ret
      exact ⟨rfl, rfl⟩
    · obtain rfl : r = 0 := by rw [HR.out]; unfold cmp; rw [if_neg h1, if_neg h2]
      go_enter Tryd.func25, Tryd.ntmps25
      go_wp2_with (go_at_call 42; (with_reducible refine (isnan _ _).mono ?_); rintro e w' ⟨rfl, rfl⟩)
      go_ret
      exact ⟨rfl, rfl⟩

set_option maxRecDepth 100000 in
set_option maxHeartbeats 1000000 in
theorem order1 (B T k : Nat) (hk : k < 4) (x y : Int) (wr : World) (hb : wr.cell? ⟨B, k, none⟩ = some (.int .u64 y)) (u : Value) (ht : wr.heap[T]? = some (.cells #[u] 3)) :
    Calls Tryd.prog 24 #[.int .i64 k, .int .u64 x, .pointer (some ⟨B, 0, none⟩), .pointer (some ⟨T, 0, none⟩)] wr fun e w' => e = .returned (.bool (cmp x y == 0)) ∧ w' = wr.setCell ⟨T, 0, none⟩ (.int .i64 (cmp x y)) := by
  have hk' : (k : Int) < 4 := by omega
  have hk0 : (0 : Int) ≤ (k : Int) := by omega
  have c := cell_at (i := 0) ht rfl
  have fz := frozen_at (i := 0) ht
  have HC := Lib.hid (compare x y)
  obtain ⟨r, hr⟩ : ∃ r, r = cmp x y := ⟨_, rfl⟩
  rw [← hr] at HC ⊢
  have c' := cell_at (i := 0) (heap_setCell_same wr T 0 #[u] 3 (.int .i64 r) ht) rfl
  clear hr ht
  go_enter Tryd.func24, Tryd.ntmps24
  go_wp2_with fail
  refine (HC.out _).mono ?_
  rintro e w' ⟨rfl, rfl⟩
  go_wp2
  go_ret
  exact ⟨rfl, rfl⟩

/-- The less of a count and what one amount holds. -/
def least (c q : Int) : Int := if q < c then q else c
set_option maxRecDepth 100000 in
set_option maxHeartbeats 1000000 in
theorem holds1_none (C A k : Nat) (wr : World) :
    Calls Tryd.prog 26 #[.int .i64 k, .int .u64 0, .pointer (some ⟨C, 0, none⟩), .pointer (some ⟨A, 0, none⟩)] wr fun e w' => e = .returned (.bool true) ∧ wr = w' := by
  go_enter Tryd.func26, Tryd.ntmps26
  go_wp2
  go_ret
  exact ⟨rfl, rfl⟩

set_option maxRecDepth 100000 in
set_option maxHeartbeats 1000000 in
theorem holds1_some (C A k : Nat) (hk : k < 4) (x y c : Int) (hy : 0 < y) (hx : 0 ≤ x) (hx' : x ≤ 18446744073709551615) (wr : World) (ha : wr.cell? ⟨A, k, none⟩ = some (.int .u64 x)) (ht : wr.heap[C]? = some (.cells #[.int .u64 c] 22)) :
    Calls Tryd.prog 26 #[.int .i64 k, .int .u64 y, .pointer (some ⟨C, 0, none⟩), .pointer (some ⟨A, 0, none⟩)] wr fun e w' => e = .returned (.bool true) ∧ w' = (wr.setCell ⟨C, 0, none⟩ (.int .u64 (least c (x / y)))).drew := by
  have hk' : (k : Int) < 4 := by omega
  have hk0 : (0 : Int) ≤ (k : Int) := by omega
  have cc := cell_at (i := 0) ht rfl
  have fz := frozen_at (i := 0) ht
  clear ht
  go_enter Tryd.func26, Tryd.ntmps26
  go_wp2
  go_region
  go_wp2
  · go_ret
    exact ⟨rfl, by rw [least, if_pos (by assumption)]⟩
  · go_ret
    exact ⟨rfl, by rw [least, if_neg (by omega)]⟩
end Go.Proofs.YtaljedficmpjpaaDoor.Vec
