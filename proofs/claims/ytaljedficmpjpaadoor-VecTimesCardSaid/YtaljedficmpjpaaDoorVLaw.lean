/- vec's calls as the statements meet them; what stays in memory between them. -/
import Derived.Test.YtaljedficmpjpaaDoorVExamples
import Derived.Test.YtaljedficmpjpaaDoorEnd
namespace Go.Proofs.YtaljedficmpjpaaDoor.Vec
open Go.RowKit

theorem zero_range : InRange zeroV := fun _ _ => by unfold zeroV; omega

theorem addA (a b c : Nat → Int) (ha : InRange a) (hb : InRange b) (hc : InRange c) (h : ∀ i, i < 4 → c i = a i + b i) (w : World) : Calls Tryd.prog 9 #[.agg #[.int .u64 (a 0), .int .u64 (a 1), .int .u64 (a 2), .int .u64 (a 3)], .agg #[.int .u64 (b 0), .int .u64 (b 1), .int .u64 (b 2), .int .u64 (b 3)]] w fun e w' => e = .returned (.tuple #[.agg #[.int .u64 (c 0), .int .u64 (c 1), .int .u64 (c 2), .int .u64 (c 3)], .bool true]) ∧ Below w.heap.size w w' := add_yes a b c ha hb hc h w

theorem addN (a b : Nat → Int) (ha : InRange a) (hb : InRange b) (h : ¬ ∀ i, i < 4 → a i + b i ≤ 18446744073709551615) (w : World) : Calls Tryd.prog 9 #[.agg #[.int .u64 (a 0), .int .u64 (a 1), .int .u64 (a 2), .int .u64 (a 3)], .agg #[.int .u64 (b 0), .int .u64 (b 1), .int .u64 (b 2), .int .u64 (b 3)]] w fun e w' => e = .returned (.tuple #[.agg #[.int .u64 0, .int .u64 0, .int .u64 0, .int .u64 0], .bool false]) ∧ Below w.heap.size w w' := add_no a b ha hb h w

theorem addZ (b : Nat → Int) (hb : InRange b) (w : World) : Calls Tryd.prog 9 #[.agg #[.int .u64 0, .int .u64 0, .int .u64 0, .int .u64 0], .agg #[.int .u64 (b 0), .int .u64 (b 1), .int .u64 (b 2), .int .u64 (b 3)]] w fun e w' => e = .returned (.tuple #[.agg #[.int .u64 (b 0), .int .u64 (b 1), .int .u64 (b 2), .int .u64 (b 3)], .bool true]) ∧ Below w.heap.size w w' := add_yes zeroV b b zero_range hb hb (fun i _ => by unfold zeroV; omega) w

theorem subA (a b : Nat → Int) (ha : InRange a) (hb : InRange b) (c : Nat → Int) (hle : ∀ i, i < 4 → b i ≤ a i) (h : ∀ i, i < 4 → c i = a i - b i) (w : World) : Calls Tryd.prog 10 #[.agg #[.int .u64 (a 0), .int .u64 (a 1), .int .u64 (a 2), .int .u64 (a 3)], .agg #[.int .u64 (b 0), .int .u64 (b 1), .int .u64 (b 2), .int .u64 (b 3)]] w fun e w' => e = .returned (.tuple #[.agg #[.int .u64 (c 0), .int .u64 (c 1), .int .u64 (c 2), .int .u64 (c 3)], .bool true]) ∧ Below w.heap.size w w' := sub_yes a b c ha hb hle h w

theorem subN (a b : Nat → Int) (ha : InRange a) (hb : InRange b) (h : ¬ ∀ i, i < 4 → b i ≤ a i) (w : World) : Calls Tryd.prog 10 #[.agg #[.int .u64 (a 0), .int .u64 (a 1), .int .u64 (a 2), .int .u64 (a 3)], .agg #[.int .u64 (b 0), .int .u64 (b 1), .int .u64 (b 2), .int .u64 (b 3)]] w fun e w' => e = .returned (.tuple #[.agg #[.int .u64 0, .int .u64 0, .int .u64 0, .int .u64 0], .bool false]) ∧ Below w.heap.size w w' := sub_no a b ha hb h w

theorem subZ (b : Nat → Int) (hb : InRange b) (h : ¬ ∀ i, i < 4 → b i ≤ 0) (w : World) : Calls Tryd.prog 10 #[.agg #[.int .u64 0, .int .u64 0, .int .u64 0, .int .u64 0], .agg #[.int .u64 (b 0), .int .u64 (b 1), .int .u64 (b 2), .int .u64 (b 3)]] w fun e w' => e = .returned (.tuple #[.agg #[.int .u64 0, .int .u64 0, .int .u64 0, .int .u64 0], .bool false]) ∧ Below w.heap.size w w' := sub_no zeroV b zero_range hb h w

theorem timesA (a c : Nat → Int) (n : Int) (ha : InRange a) (hn : 0 ≤ n ∧ n ≤ 18446744073709551615) (hc : InRange c) (h : ∀ i, i < 4 → c i = a i * n) (w : World) : Calls Tryd.prog 14 #[.agg #[.int .u64 (a 0), .int .u64 (a 1), .int .u64 (a 2), .int .u64 (a 3)], .int .u64 n] w fun e w' => e = .returned (.tuple #[.agg #[.int .u64 (c 0), .int .u64 (c 1), .int .u64 (c 2), .int .u64 (c 3)], .bool true]) ∧ Below w.heap.size w w' := times_yes a c n ha hn hc h w

theorem timesN (a : Nat → Int) (n : Int) (ha : InRange a) (hn : 0 ≤ n ∧ n ≤ 18446744073709551615) (h : ¬ ∀ i, i < 4 → a i * n ≤ 18446744073709551615) (w : World) : Calls Tryd.prog 14 #[.agg #[.int .u64 (a 0), .int .u64 (a 1), .int .u64 (a 2), .int .u64 (a 3)], .int .u64 n] w fun e w' => e = .returned (.tuple #[.agg #[.int .u64 0, .int .u64 0, .int .u64 0, .int .u64 0], .bool false]) ∧ Below w.heap.size w w' := times_no a n ha hn h w

theorem fitsA (a b : Nat → Int) (r : Bool) (h : fitsB a b = r) (w : World) : Calls Tryd.prog 11 #[.agg #[.int .u64 (a 0), .int .u64 (a 1), .int .u64 (a 2), .int .u64 (a 3)], .agg #[.int .u64 (b 0), .int .u64 (b 1), .int .u64 (b 2), .int .u64 (b 3)]] w fun e w' => e = .returned (.bool r) ∧ Below w.heap.size w w' := h ▸ fits_any a b w

theorem fitsZ (b : Nat → Int) (hb : InRange b) (w : World) : Calls Tryd.prog 11 #[.agg #[.int .u64 0, .int .u64 0, .int .u64 0, .int .u64 0], .agg #[.int .u64 (b 0), .int .u64 (b 1), .int .u64 (b 2), .int .u64 (b 3)]] w fun e w' => e = .returned (.bool true) ∧ Below w.heap.size w w' := (fits_true.2 (fun i hi => by unfold zeroV; exact (hb i hi).1) : fitsB zeroV b = true) ▸ fits_any zeroV b w

theorem orderA (a b : Nat → Int) (w : World) : Calls Tryd.prog 12 #[.agg #[.int .u64 (a 0), .int .u64 (a 1), .int .u64 (a 2), .int .u64 (a 3)], .agg #[.int .u64 (b 0), .int .u64 (b 1), .int .u64 (b 2), .int .u64 (b 3)]] w fun e w' => e = .returned (.int .i64 (ordV a b)) ∧ Below w.heap.size w w' := order_any a b w

theorem holdsA (x y : Nat → Int) (hx : InRange x) (hy : InRange y) (n : Int) (m : Int) (hn : n ≤ 9223372036854775807) (hn' : -9223372036854775808 ≤ n) (hm : m = if 0 < n then n else 0) (w : World) : Calls Tryd.prog 13 #[.agg #[.int .u64 (x 0), .int .u64 (x 1), .int .u64 (x 2), .int .u64 (x 3)], .agg #[.int .u64 (y 0), .int .u64 (y 1), .int .u64 (y 2), .int .u64 (y 3)], .int .i64 n] w fun e w' => e = .returned (.int .i64 (cnt x y m 4)) ∧ Below w.heap.size w w' := holds_any x y hx hy n m hn hn' hm w

theorem holdsZ (x : Nat → Int) (hx : InRange x) (n : Int) (hn : n ≤ 9223372036854775807) (hn' : 0 ≤ n) (w : World) : Calls Tryd.prog 13 #[.agg #[.int .u64 (x 0), .int .u64 (x 1), .int .u64 (x 2), .int .u64 (x 3)], .agg #[.int .u64 0, .int .u64 0, .int .u64 0, .int .u64 0], .int .i64 n] w fun e w' => e = .returned (.int .i64 n) ∧ Below w.heap.size w w' := holds_any x zeroV hx zero_range n n hn (by omega) (by split <;> omega) w


theorem keep2 {W w1 : World} {b : Nat} {o x y : Obj} (hb : Below ((W.alloc x).alloc y).heap.size ((W.alloc x).alloc y) w1) (h : W.heap[b]? = some o) : w1.heap[b]? = some o :=
  keep1 hb ((heap_alloc_old _ _ (Array.getElem?_eq_some_iff.1 h).1).trans h)
theorem new2 {W w1 : World} {x y : Obj} (hb : Below ((W.alloc x).alloc y).heap.size ((W.alloc x).alloc y) w1) : w1.heap[W.heap.size]? = some x := keep1 hb (heap_alloc_new _ _)
theorem new2' {W w1 : World} {x y : Obj} (hb : Below ((W.alloc x).alloc y).heap.size ((W.alloc x).alloc y) w1) : w1.heap[W.heap.size + 1]? = some y := keep0 hb (heap_alloc2_new _ _ _)
theorem chain2 {w W w1 : World} {x y : Obj} (h : Below w.heap.size w W) (hb : Below ((W.alloc x).alloc y).heap.size ((W.alloc x).alloc y) w1) : Below w.heap.size w w1 := chain1 (h.alloc h.size x) hb
theorem three_laid (w : World) (x y z : Obj) : (((w.alloc x).alloc y).alloc z).heap[w.heap.size]? = some x ∧ (((w.alloc x).alloc y).alloc z).heap[w.heap.size + 1]? = some y ∧ (((w.alloc x).alloc y).alloc z).heap[w.heap.size + 1 + 1]? = some z ∧ Below w.heap.size w (((w.alloc x).alloc y).alloc z) := by
  have h := two_laid w x y
  have e := heap_alloc_new ((w.alloc x).alloc y) z
  rw [World.size_alloc, World.size_alloc] at e
  exact ⟨(heap_alloc_old _ _ (by simp; omega)).trans h.1, (heap_alloc_old _ _ (by simp)).trans h.2.1, e, h.2.2.alloc (by simp; omega) _⟩
theorem one_laid (w : World) (x : Obj) : (w.alloc x).heap[w.heap.size]? = some x ∧ Below w.heap.size w (w.alloc x) := ⟨heap_alloc_new _ _, (Below.refl _ _).alloc (Nat.le_refl _) _⟩
end Go.Proofs.YtaljedficmpjpaaDoor.Vec
