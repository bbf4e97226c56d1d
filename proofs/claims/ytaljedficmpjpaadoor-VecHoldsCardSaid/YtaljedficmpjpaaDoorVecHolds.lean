/- Proved: demesnelaw03.VecHolds answers true for every two amounts of four numbers of 64 bits and every number of 8 bits, and leaves them as they were. No condition beside the row's own; the card ties the listed tables to the pruned copy. -/
import Derived.Test.YtaljedficmpjpaaDoorVArgs
import Derived.Test.YtaljedficmpjpaaDoorCards
import Derived.Test.YtaljedficmpjpaaDoorTie
import Derived.PlainAid
import Derived.Lay
import Derived.SevenTiedAt
import Derived.LaidMore
import Derived.Stop.Joined
namespace Go.Proofs.YtaljedficmpjpaaDoor.vecHolds
open Go.RowKit Go.Proofs.YtaljedficmpjpaaDoor.Vec

theorem cnt_spec (a b : Nat → Int) (m : Int) : ∀ k, (∀ i, i < k → 0 < b i → cnt a b m k ≤ a i / b i) ∧ (cnt a b m k = m ∨ ∃ i, i < k ∧ 0 < b i ∧ cnt a b m k = a i / b i)
  | 0 => ⟨fun i hi => absurd hi (by omega), .inl rfl⟩
  | k + 1 => by
    obtain ⟨h1, h2⟩ := cnt_spec a b m k
    by_cases h0 : 0 < b k
    · rw [cnt_pos h0]
      unfold least
      by_cases hq : a k / b k < cnt a b m k
      · rw [if_pos hq]
        refine ⟨fun i hi hb => ?_, .inr ⟨k, by omega, h0, rfl⟩⟩
        by_cases e : i = k
        · rw [e]; exact Int.le_refl _
        · have := h1 i (by omega) hb; omega
      · rw [if_neg hq]
        refine ⟨fun i hi hb => ?_, ?_⟩
        · by_cases e : i = k
          · rw [e]; omega
          · exact h1 i (by omega) hb
        · rcases h2 with h2 | ⟨i, hi, hb, h2⟩
          · exact .inl h2
          · exact .inr ⟨i, by omega, hb, h2⟩
    · rw [cnt_neg h0]
      refine ⟨fun i hi hb => ?_, ?_⟩
      · by_cases e : i = k
        · rw [e] at hb; exact absurd hb h0
        · exact h1 i (by omega) hb
      · rcases h2 with h2 | ⟨i, hi, hb, h2⟩
        · exact .inl h2
        · exact .inr ⟨i, by omega, hb, h2⟩
theorem held {a b : Nat → Int} {m : Int} (ha : InRange a) (hb : InRange b) (hm : 0 ≤ m) : ∀ i, i < 4 → 0 ≤ b i * cnt a b m 4 ∧ b i * cnt a b m 4 ≤ a i := fun i hi => by
  have h0 := (cnt_bounds (y := b) ha hm 4 (by omega)).1
  have hbi := hb i hi
  refine ⟨Int.mul_nonneg hbi.1 h0, ?_⟩
  by_cases hp : 0 < b i
  · have := (cnt_spec a b m 4).1 i hi hp
    have := (Int.le_ediv_iff_mul_le hp).1 this
    rw [Int.mul_comm]
    exact this
  · have e : b i = 0 := by omega
    rw [e, Int.zero_mul]
    exact (ha i hi).1
theorem no_more {a b : Nat → Int} {m : Int} (h : cnt a b m 4 < m) : ¬ ∀ i, i < 4 → b i * (cnt a b m 4 + 1) ≤ a i := by
  intro hall
  rcases (cnt_spec a b m 4).2 with h2 | ⟨i, hi, hb, h2⟩
  · omega
  · have h3 := hall i hi
    rw [h2, Int.mul_comm] at h3
    have h4 := (Int.le_ediv_iff_mul_le hb).2 h3
    omega

set_option maxRecDepth 100000 in
set_option maxHeartbeats 4000000 in
theorem full_more (a b v u : Nat → Int) (m n : Int) (hn0 : 0 ≤ n) (hm : m ≤ 255) (hnm : n = m) (H1 : ∀ W, Hid (Calls Tryd.prog 13 #[.agg #[.int .u64 (a 0), .int .u64 (a 1), .int .u64 (a 2), .int .u64 (a 3)], .agg #[.int .u64 (b 0), .int .u64 (b 1), .int .u64 (b 2), .int .u64 (b 3)], .int .i64 m] W fun e w' => e = .returned (.int .i64 n) ∧ Below W.heap.size W w')) (T1 : ∀ W, Hid (Calls Tryd.prog 14 #[.agg #[.int .u64 (b 0), .int .u64 (b 1), .int .u64 (b 2), .int .u64 (b 3)], .int .u64 n] W fun e w' => e = .returned (.tuple #[.agg #[.int .u64 (v 0), .int .u64 (v 1), .int .u64 (v 2), .int .u64 (v 3)], .bool true]) ∧ Below W.heap.size W w')) (T2 : ∀ W, Hid (Calls Tryd.prog 14 #[.agg #[.int .u64 (b 0), .int .u64 (b 1), .int .u64 (b 2), .int .u64 (b 3)], .int .u64 (n + 1)] W fun e w' => e = .returned (.tuple #[.agg #[.int .u64 (u 0), .int .u64 (u 1), .int .u64 (u 2), .int .u64 (u 3)], .bool true]) ∧ Below W.heap.size W w')) (F1 : ∀ W, Hid (Calls Tryd.prog 11 #[.agg #[.int .u64 (v 0), .int .u64 (v 1), .int .u64 (v 2), .int .u64 (v 3)], .agg #[.int .u64 (a 0), .int .u64 (a 1), .int .u64 (a 2), .int .u64 (a 3)]] W fun e w' => e = .returned (.bool true) ∧ Below W.heap.size W w')) (H2 : ∀ W, Hid (Calls Tryd.prog 13 #[.agg #[.int .u64 (a 0), .int .u64 (a 1), .int .u64 (a 2), .int .u64 (a 3)], .agg #[.int .u64 0, .int .u64 0, .int .u64 0, .int .u64 0], .int .i64 m] W fun e w' => e = .returned (.int .i64 m) ∧ Below W.heap.size W w')) (H3 : ∀ W, Hid (Calls Tryd.prog 13 #[.agg #[.int .u64 (a 0), .int .u64 (a 1), .int .u64 (a 2), .int .u64 (a 3)], .agg #[.int .u64 (b 0), .int .u64 (b 1), .int .u64 (b 2), .int .u64 (b 3)], .int .i64 (-1)] W fun e w' => e = .returned (.int .i64 0) ∧ Below W.heap.size W w')) (w : World) :
    Calls Tryd.prog 6 #[.agg #[.int .u64 (a 0), .int .u64 (a 1), .int .u64 (a 2), .int .u64 (a 3)], .agg #[.int .u64 (b 0), .int .u64 (b 1), .int .u64 (b 2), .int .u64 (b 3)], .int .u8 m] w fun e w' => e = .returned (.bool true) ∧ Below w.heap.size w w' := by
  subst hnm
  have hlt : decide (n < n) = false := decide_eq_false (by omega)
  obtain ⟨hx0, hy0, hB0⟩ := two_laid w (.cells #[.int .u64 (a 0), .int .u64 (a 1), .int .u64 (a 2), .int .u64 (a 3)] 24) (.cells #[.int .u64 (b 0), .int .u64 (b 1), .int .u64 (b 2), .int .u64 (b 3)] 24)
  have hx := Lib.hid hx0
  have hy := Lib.hid hy0
  have hB := Lib.hid hB0
  clear hx0 hy0 hB0
  go_enter Tryd.func6, Tryd.ntmps6
  go_wp2_with fail
  refine (examples_any _).mono ?_
  rintro e w1 ⟨rfl, hb⟩
  have hx' := Lib.hid (keep0 hb hx.out)
  clear hx
  have hx := hx'
  clear hx'
  have hy' := Lib.hid (keep0 hb hy.out)
  clear hy
  have hy := hy'
  clear hy'
  have hB' := Lib.hid (grows hB.out hb)
  clear hB hb
  have hB := hB'
  clear hB'
  obtain ⟨lx, x0, x1, x2, x3⟩ := has_cells hx.out
  obtain ⟨ly, y0, y1, y2, y3⟩ := has_cells hy.out
  go_wp2_with fail
  refine ((H1 _).out).mono ?_
  rintro e w2 ⟨rfl, hb⟩
  clear lx x0 x1 x2 x3
  clear ly y0 y1 y2 y3
  have hx' := Lib.hid (keep0 hb hx.out)
  clear hx
  have hx := hx'
  clear hx'
  have hy' := Lib.hid (keep0 hb hy.out)
  clear hy
  have hy := hy'
  clear hy'
  have hB' := Lib.hid (grows hB.out hb)
  clear hB hb
  have hB := hB'
  clear hB'
  obtain ⟨ly, y0, y1, y2, y3⟩ := has_cells hy.out
  go_wp2_with fail
  refine ((T1 _).out).mono ?_
  rintro e w3 ⟨rfl, hb⟩
  clear ly y0 y1 y2 y3
  have hx' := Lib.hid (keep0 hb hx.out)
  clear hx
  have hx := hx'
  clear hx'
  have hy' := Lib.hid (keep0 hb hy.out)
  clear hy
  have hy := hy'
  clear hy'
  have hB' := Lib.hid (grows hB.out hb)
  clear hB hb
  have hB := hB'
  clear hB'
  obtain ⟨ly, y0, y1, y2, y3⟩ := has_cells hy.out
  go_wp2_with fail
  refine ((T2 _).out).mono ?_
  rintro e w4 ⟨rfl, hb⟩
  clear ly y0 y1 y2 y3
  have hx' := Lib.hid (keep1 hb hx.out)
  clear hx
  have hx := hx'
  clear hx'
  have hy' := Lib.hid (keep1 hb hy.out)
  clear hy
  have hy := hy'
  clear hy'
  have hp := Lib.hid (new1 hb)
  have hB' := Lib.hid (chain1 hB.out hb)
  clear hB hb
  have hB := hB'
  clear hB'
  obtain ⟨lx, x0, x1, x2, x3⟩ := has_cells hx.out
  obtain ⟨lp, p0, p1, p2, p3⟩ := has_cells hp.out
  go_wp2_with fail
  refine ((F1 _).out).mono ?_
  rintro e w5 ⟨rfl, hb⟩
  clear lx x0 x1 x2 x3
  clear lp p0 p1 p2 p3
  have hx' := Lib.hid (keep1 hb hx.out)
  clear hx
  have hx := hx'
  clear hx'
  have hy' := Lib.hid (keep1 hb hy.out)
  clear hy
  have hy := hy'
  clear hy'
  have hp' := Lib.hid (keep1 hb hp.out)
  clear hp
  have hp := hp'
  clear hp'
  have hq := Lib.hid (new1 hb)
  have hB' := Lib.hid (chain1 hB.out hb)
  clear hB hb
  have hB := hB'
  clear hB'
  obtain ⟨lx, x0, x1, x2, x3⟩ := has_cells hx.out
  go_wp2_with fail
  refine ((H2 _).out).mono ?_
  rintro e w6 ⟨rfl, hb⟩
  clear lx x0 x1 x2 x3
  have hx' := Lib.hid (keep0 hb hx.out)
  clear hx
  have hx := hx'
  clear hx'
  have hy' := Lib.hid (keep0 hb hy.out)
  clear hy
  have hy := hy'
  clear hy'
  have hp' := Lib.hid (keep0 hb hp.out)
  clear hp
  have hp := hp'
  clear hp'
  have hq' := Lib.hid (keep0 hb hq.out)
  clear hq
  have hq := hq'
  clear hq'
  have hB' := Lib.hid (grows hB.out hb)
  clear hB hb
  have hB := hB'
  clear hB'
  obtain ⟨lx, x0, x1, x2, x3⟩ := has_cells hx.out
  obtain ⟨ly, y0, y1, y2, y3⟩ := has_cells hy.out
  go_wp2_with fail
  refine ((H3 _).out).mono ?_
  rintro e w7 ⟨rfl, hb⟩
  clear lx x0 x1 x2 x3
  clear ly y0 y1 y2 y3
  have hx' := Lib.hid (keep0 hb hx.out)
  clear hx
  have hx := hx'
  clear hx'
  have hy' := Lib.hid (keep0 hb hy.out)
  clear hy
  have hy := hy'
  clear hy'
  have hp' := Lib.hid (keep0 hb hp.out)
  clear hp
  have hp := hp'
  clear hp'
  have hq' := Lib.hid (keep0 hb hq.out)
  clear hq
  have hq := hq'
  clear hq'
  have hB' := Lib.hid (grows hB.out hb)
  clear hB hb
  have hB := hB'
  clear hB'
  go_wp2
  go_ret
  exact ⟨rfl, hB.out⟩

set_option maxRecDepth 100000 in
set_option maxHeartbeats 4000000 in
theorem full_none (a b v : Nat → Int) (m n : Int) (hn0 : 0 ≤ n) (hm : m ≤ 255) (hnm : n = m) (H1 : ∀ W, Hid (Calls Tryd.prog 13 #[.agg #[.int .u64 (a 0), .int .u64 (a 1), .int .u64 (a 2), .int .u64 (a 3)], .agg #[.int .u64 (b 0), .int .u64 (b 1), .int .u64 (b 2), .int .u64 (b 3)], .int .i64 m] W fun e w' => e = .returned (.int .i64 n) ∧ Below W.heap.size W w')) (T1 : ∀ W, Hid (Calls Tryd.prog 14 #[.agg #[.int .u64 (b 0), .int .u64 (b 1), .int .u64 (b 2), .int .u64 (b 3)], .int .u64 n] W fun e w' => e = .returned (.tuple #[.agg #[.int .u64 (v 0), .int .u64 (v 1), .int .u64 (v 2), .int .u64 (v 3)], .bool true]) ∧ Below W.heap.size W w')) (T2 : ∀ W, Hid (Calls Tryd.prog 14 #[.agg #[.int .u64 (b 0), .int .u64 (b 1), .int .u64 (b 2), .int .u64 (b 3)], .int .u64 (n + 1)] W fun e w' => e = .returned (.tuple #[.agg #[.int .u64 0, .int .u64 0, .int .u64 0, .int .u64 0], .bool false]) ∧ Below W.heap.size W w')) (F1 : ∀ W, Hid (Calls Tryd.prog 11 #[.agg #[.int .u64 (v 0), .int .u64 (v 1), .int .u64 (v 2), .int .u64 (v 3)], .agg #[.int .u64 (a 0), .int .u64 (a 1), .int .u64 (a 2), .int .u64 (a 3)]] W fun e w' => e = .returned (.bool true) ∧ Below W.heap.size W w')) (H2 : ∀ W, Hid (Calls Tryd.prog 13 #[.agg #[.int .u64 (a 0), .int .u64 (a 1), .int .u64 (a 2), .int .u64 (a 3)], .agg #[.int .u64 0, .int .u64 0, .int .u64 0, .int .u64 0], .int .i64 m] W fun e w' => e = .returned (.int .i64 m) ∧ Below W.heap.size W w')) (H3 : ∀ W, Hid (Calls Tryd.prog 13 #[.agg #[.int .u64 (a 0), .int .u64 (a 1), .int .u64 (a 2), .int .u64 (a 3)], .agg #[.int .u64 (b 0), .int .u64 (b 1), .int .u64 (b 2), .int .u64 (b 3)], .int .i64 (-1)] W fun e w' => e = .returned (.int .i64 0) ∧ Below W.heap.size W w')) (w : World) :
    Calls Tryd.prog 6 #[.agg #[.int .u64 (a 0), .int .u64 (a 1), .int .u64 (a 2), .int .u64 (a 3)], .agg #[.int .u64 (b 0), .int .u64 (b 1), .int .u64 (b 2), .int .u64 (b 3)], .int .u8 m] w fun e w' => e = .returned (.bool true) ∧ Below w.heap.size w w' := by
  subst hnm
  have hlt : decide (n < n) = false := decide_eq_false (by omega)
  obtain ⟨hx0, hy0, hB0⟩ := two_laid w (.cells #[.int .u64 (a 0), .int .u64 (a 1), .int .u64 (a 2), .int .u64 (a 3)] 24) (.cells #[.int .u64 (b 0), .int .u64 (b 1), .int .u64 (b 2), .int .u64 (b 3)] 24)
  have hx := Lib.hid hx0
  have hy := Lib.hid hy0
  have hB := Lib.hid hB0
  clear hx0 hy0 hB0
  go_enter Tryd.func6, Tryd.ntmps6
  go_wp2_with fail
  refine (examples_any _).mono ?_
  rintro e w1 ⟨rfl, hb⟩
  have hx' := Lib.hid (keep0 hb hx.out)
  clear hx
  have hx := hx'
  clear hx'
  have hy' := Lib.hid (keep0 hb hy.out)
  clear hy
  have hy := hy'
  clear hy'
  have hB' := Lib.hid (grows hB.out hb)
  clear hB hb
  have hB := hB'
  clear hB'
  obtain ⟨lx, x0, x1, x2, x3⟩ := has_cells hx.out
  obtain ⟨ly, y0, y1, y2, y3⟩ := has_cells hy.out
  go_wp2_with fail
  refine ((H1 _).out).mono ?_
  rintro e w2 ⟨rfl, hb⟩
  clear lx x0 x1 x2 x3
  clear ly y0 y1 y2 y3
  have hx' := Lib.hid (keep0 hb hx.out)
  clear hx
  have hx := hx'
  clear hx'
  have hy' := Lib.hid (keep0 hb hy.out)
  clear hy
  have hy := hy'
  clear hy'
  have hB' := Lib.hid (grows hB.out hb)
  clear hB hb
  have hB := hB'
  clear hB'
  obtain ⟨ly, y0, y1, y2, y3⟩ := has_cells hy.out
  go_wp2_with fail
  refine ((T1 _).out).mono ?_
  rintro e w3 ⟨rfl, hb⟩
  clear ly y0 y1 y2 y3
  have hx' := Lib.hid (keep0 hb hx.out)
  clear hx
  have hx := hx'
  clear hx'
  have hy' := Lib.hid (keep0 hb hy.out)
  clear hy
  have hy := hy'
  clear hy'
  have hB' := Lib.hid (grows hB.out hb)
  clear hB hb
  have hB := hB'
  clear hB'
  obtain ⟨ly, y0, y1, y2, y3⟩ := has_cells hy.out
  go_wp2_with fail
  refine ((T2 _).out).mono ?_
  rintro e w4 ⟨rfl, hb⟩
  clear ly y0 y1 y2 y3
  have hx' := Lib.hid (keep1 hb hx.out)
  clear hx
  have hx := hx'
  clear hx'
  have hy' := Lib.hid (keep1 hb hy.out)
  clear hy
  have hy := hy'
  clear hy'
  have hp := Lib.hid (new1 hb)
  have hB' := Lib.hid (chain1 hB.out hb)
  clear hB hb
  have hB := hB'
  clear hB'
  obtain ⟨lx, x0, x1, x2, x3⟩ := has_cells hx.out
  obtain ⟨lp, p0, p1, p2, p3⟩ := has_cells hp.out
  go_wp2_with fail
  refine ((F1 _).out).mono ?_
  rintro e w5 ⟨rfl, hb⟩
  clear lx x0 x1 x2 x3
  clear lp p0 p1 p2 p3
  have hx' := Lib.hid (keep1 hb hx.out)
  clear hx
  have hx := hx'
  clear hx'
  have hy' := Lib.hid (keep1 hb hy.out)
  clear hy
  have hy := hy'
  clear hy'
  have hp' := Lib.hid (keep1 hb hp.out)
  clear hp
  have hp := hp'
  clear hp'
  have hq := Lib.hid (new1 hb)
  have hB' := Lib.hid (chain1 hB.out hb)
  clear hB hb
  have hB := hB'
  clear hB'
  obtain ⟨lx, x0, x1, x2, x3⟩ := has_cells hx.out
  go_wp2_with fail
  refine ((H2 _).out).mono ?_
  rintro e w6 ⟨rfl, hb⟩
  clear lx x0 x1 x2 x3
  have hx' := Lib.hid (keep0 hb hx.out)
  clear hx
  have hx := hx'
  clear hx'
  have hy' := Lib.hid (keep0 hb hy.out)
  clear hy
  have hy := hy'
  clear hy'
  have hp' := Lib.hid (keep0 hb hp.out)
  clear hp
  have hp := hp'
  clear hp'
  have hq' := Lib.hid (keep0 hb hq.out)
  clear hq
  have hq := hq'
  clear hq'
  have hB' := Lib.hid (grows hB.out hb)
  clear hB hb
  have hB := hB'
  clear hB'
  obtain ⟨lx, x0, x1, x2, x3⟩ := has_cells hx.out
  obtain ⟨ly, y0, y1, y2, y3⟩ := has_cells hy.out
  go_wp2_with fail
  refine ((H3 _).out).mono ?_
  rintro e w7 ⟨rfl, hb⟩
  clear lx x0 x1 x2 x3
  clear ly y0 y1 y2 y3
  have hx' := Lib.hid (keep0 hb hx.out)
  clear hx
  have hx := hx'
  clear hx'
  have hy' := Lib.hid (keep0 hb hy.out)
  clear hy
  have hy := hy'
  clear hy'
  have hp' := Lib.hid (keep0 hb hp.out)
  clear hp
  have hp := hp'
  clear hp'
  have hq' := Lib.hid (keep0 hb hq.out)
  clear hq
  have hq := hq'
  clear hq'
  have hB' := Lib.hid (grows hB.out hb)
  clear hB hb
  have hB := hB'
  clear hB'
  go_wp2
  go_ret
  exact ⟨rfl, hB.out⟩

set_option maxRecDepth 100000 in
set_option maxHeartbeats 4000000 in
theorem less_more (a b v u : Nat → Int) (m n : Int) (hn0 : 0 ≤ n) (hm : m ≤ 255) (hnm : n < m) (H1 : ∀ W, Hid (Calls Tryd.prog 13 #[.agg #[.int .u64 (a 0), .int .u64 (a 1), .int .u64 (a 2), .int .u64 (a 3)], .agg #[.int .u64 (b 0), .int .u64 (b 1), .int .u64 (b 2), .int .u64 (b 3)], .int .i64 m] W fun e w' => e = .returned (.int .i64 n) ∧ Below W.heap.size W w')) (T1 : ∀ W, Hid (Calls Tryd.prog 14 #[.agg #[.int .u64 (b 0), .int .u64 (b 1), .int .u64 (b 2), .int .u64 (b 3)], .int .u64 n] W fun e w' => e = .returned (.tuple #[.agg #[.int .u64 (v 0), .int .u64 (v 1), .int .u64 (v 2), .int .u64 (v 3)], .bool true]) ∧ Below W.heap.size W w')) (T2 : ∀ W, Hid (Calls Tryd.prog 14 #[.agg #[.int .u64 (b 0), .int .u64 (b 1), .int .u64 (b 2), .int .u64 (b 3)], .int .u64 (n + 1)] W fun e w' => e = .returned (.tuple #[.agg #[.int .u64 (u 0), .int .u64 (u 1), .int .u64 (u 2), .int .u64 (u 3)], .bool true]) ∧ Below W.heap.size W w')) (F1 : ∀ W, Hid (Calls Tryd.prog 11 #[.agg #[.int .u64 (v 0), .int .u64 (v 1), .int .u64 (v 2), .int .u64 (v 3)], .agg #[.int .u64 (a 0), .int .u64 (a 1), .int .u64 (a 2), .int .u64 (a 3)]] W fun e w' => e = .returned (.bool true) ∧ Below W.heap.size W w')) (F2 : ∀ W, Hid (Calls Tryd.prog 11 #[.agg #[.int .u64 (u 0), .int .u64 (u 1), .int .u64 (u 2), .int .u64 (u 3)], .agg #[.int .u64 (a 0), .int .u64 (a 1), .int .u64 (a 2), .int .u64 (a 3)]] W fun e w' => e = .returned (.bool false) ∧ Below W.heap.size W w')) (H2 : ∀ W, Hid (Calls Tryd.prog 13 #[.agg #[.int .u64 (a 0), .int .u64 (a 1), .int .u64 (a 2), .int .u64 (a 3)], .agg #[.int .u64 0, .int .u64 0, .int .u64 0, .int .u64 0], .int .i64 m] W fun e w' => e = .returned (.int .i64 m) ∧ Below W.heap.size W w')) (H3 : ∀ W, Hid (Calls Tryd.prog 13 #[.agg #[.int .u64 (a 0), .int .u64 (a 1), .int .u64 (a 2), .int .u64 (a 3)], .agg #[.int .u64 (b 0), .int .u64 (b 1), .int .u64 (b 2), .int .u64 (b 3)], .int .i64 (-1)] W fun e w' => e = .returned (.int .i64 0) ∧ Below W.heap.size W w')) (w : World) :
    Calls Tryd.prog 6 #[.agg #[.int .u64 (a 0), .int .u64 (a 1), .int .u64 (a 2), .int .u64 (a 3)], .agg #[.int .u64 (b 0), .int .u64 (b 1), .int .u64 (b 2), .int .u64 (b 3)], .int .u8 m] w fun e w' => e = .returned (.bool true) ∧ Below w.heap.size w w' := by
  have hlt : decide (n < m) = true := decide_eq_true hnm
  have hm0 : 0 ≤ m := by omega
  obtain ⟨hx0, hy0, hB0⟩ := two_laid w (.cells #[.int .u64 (a 0), .int .u64 (a 1), .int .u64 (a 2), .int .u64 (a 3)] 24) (.cells #[.int .u64 (b 0), .int .u64 (b 1), .int .u64 (b 2), .int .u64 (b 3)] 24)
  have hx := Lib.hid hx0
  have hy := Lib.hid hy0
  have hB := Lib.hid hB0
  clear hx0 hy0 hB0
  go_enter Tryd.func6, Tryd.ntmps6
  go_wp2_with fail
  refine (examples_any _).mono ?_
  rintro e w1 ⟨rfl, hb⟩
  have hx' := Lib.hid (keep0 hb hx.out)
  clear hx
  have hx := hx'
  clear hx'
  have hy' := Lib.hid (keep0 hb hy.out)
  clear hy
  have hy := hy'
  clear hy'
  have hB' := Lib.hid (grows hB.out hb)
  clear hB hb
  have hB := hB'
  clear hB'
  obtain ⟨lx, x0, x1, x2, x3⟩ := has_cells hx.out
  obtain ⟨ly, y0, y1, y2, y3⟩ := has_cells hy.out
  go_wp2_with fail
  refine ((H1 _).out).mono ?_
  rintro e w2 ⟨rfl, hb⟩
  clear lx x0 x1 x2 x3
  clear ly y0 y1 y2 y3
  have hx' := Lib.hid (keep0 hb hx.out)
  clear hx
  have hx := hx'
  clear hx'
  have hy' := Lib.hid (keep0 hb hy.out)
  clear hy
  have hy := hy'
  clear hy'
  have hB' := Lib.hid (grows hB.out hb)
  clear hB hb
  have hB := hB'
  clear hB'
  obtain ⟨ly, y0, y1, y2, y3⟩ := has_cells hy.out
  go_wp2_with fail
  refine ((T1 _).out).mono ?_
  rintro e w3 ⟨rfl, hb⟩
  clear ly y0 y1 y2 y3
  have hx' := Lib.hid (keep0 hb hx.out)
  clear hx
  have hx := hx'
  clear hx'
  have hy' := Lib.hid (keep0 hb hy.out)
  clear hy
  have hy := hy'
  clear hy'
  have hB' := Lib.hid (grows hB.out hb)
  clear hB hb
  have hB := hB'
  clear hB'
  obtain ⟨ly, y0, y1, y2, y3⟩ := has_cells hy.out
  go_wp2_with fail
  refine ((T2 _).out).mono ?_
  rintro e w4 ⟨rfl, hb⟩
  clear ly y0 y1 y2 y3
  have hx' := Lib.hid (keep1 hb hx.out)
  clear hx
  have hx := hx'
  clear hx'
  have hy' := Lib.hid (keep1 hb hy.out)
  clear hy
  have hy := hy'
  clear hy'
  have hp := Lib.hid (new1 hb)
  have hB' := Lib.hid (chain1 hB.out hb)
  clear hB hb
  have hB := hB'
  clear hB'
  obtain ⟨lx, x0, x1, x2, x3⟩ := has_cells hx.out
  obtain ⟨lp, p0, p1, p2, p3⟩ := has_cells hp.out
  go_wp2_with fail
  refine ((F1 _).out).mono ?_
  rintro e w5 ⟨rfl, hb⟩
  clear lx x0 x1 x2 x3
  clear lp p0 p1 p2 p3
  have hx' := Lib.hid (keep1 hb hx.out)
  clear hx
  have hx := hx'
  clear hx'
  have hy' := Lib.hid (keep1 hb hy.out)
  clear hy
  have hy := hy'
  clear hy'
  have hp' := Lib.hid (keep1 hb hp.out)
  clear hp
  have hp := hp'
  clear hp'
  have hq := Lib.hid (new1 hb)
  have hB' := Lib.hid (chain1 hB.out hb)
  clear hB hb
  have hB := hB'
  clear hB'
  obtain ⟨lx, x0, x1, x2, x3⟩ := has_cells hx.out
  obtain ⟨lq, q0, q1, q2, q3⟩ := has_cells hq.out
  go_wp2_with fail
  refine ((F2 _).out).mono ?_
  rintro e w6 ⟨rfl, hb⟩
  clear lx x0 x1 x2 x3
  clear lq q0 q1 q2 q3
  have hx' := Lib.hid (keep0 hb hx.out)
  clear hx
  have hx := hx'
  clear hx'
  have hy' := Lib.hid (keep0 hb hy.out)
  clear hy
  have hy := hy'
  clear hy'
  have hp' := Lib.hid (keep0 hb hp.out)
  clear hp
  have hp := hp'
  clear hp'
  have hq' := Lib.hid (keep0 hb hq.out)
  clear hq
  have hq := hq'
  clear hq'
  have hB' := Lib.hid (grows hB.out hb)
  clear hB hb
  have hB := hB'
  clear hB'
  obtain ⟨lx, x0, x1, x2, x3⟩ := has_cells hx.out
  go_wp2_with fail
  refine ((H2 _).out).mono ?_
  rintro e w7 ⟨rfl, hb⟩
  clear lx x0 x1 x2 x3
  have hx' := Lib.hid (keep0 hb hx.out)
  clear hx
  have hx := hx'
  clear hx'
  have hy' := Lib.hid (keep0 hb hy.out)
  clear hy
  have hy := hy'
  clear hy'
  have hp' := Lib.hid (keep0 hb hp.out)
  clear hp
  have hp := hp'
  clear hp'
  have hq' := Lib.hid (keep0 hb hq.out)
  clear hq
  have hq := hq'
  clear hq'
  have hB' := Lib.hid (grows hB.out hb)
  clear hB hb
  have hB := hB'
  clear hB'
  obtain ⟨lx, x0, x1, x2, x3⟩ := has_cells hx.out
  obtain ⟨ly, y0, y1, y2, y3⟩ := has_cells hy.out
  go_wp2_with fail
  refine ((H3 _).out).mono ?_
  rintro e w8 ⟨rfl, hb⟩
  clear lx x0 x1 x2 x3
  clear ly y0 y1 y2 y3
  have hx' := Lib.hid (keep0 hb hx.out)
  clear hx
  have hx := hx'
  clear hx'
  have hy' := Lib.hid (keep0 hb hy.out)
  clear hy
  have hy := hy'
  clear hy'
  have hp' := Lib.hid (keep0 hb hp.out)
  clear hp
  have hp := hp'
  clear hp'
  have hq' := Lib.hid (keep0 hb hq.out)
  clear hq
  have hq := hq'
  clear hq'
  have hB' := Lib.hid (grows hB.out hb)
  clear hB hb
  have hB := hB'
  clear hB'
  go_wp2
  go_ret
  exact ⟨rfl, hB.out⟩

set_option maxRecDepth 100000 in
set_option maxHeartbeats 4000000 in
theorem less_none (a b v : Nat → Int) (m n : Int) (hn0 : 0 ≤ n) (hm : m ≤ 255) (hnm : n < m) (H1 : ∀ W, Hid (Calls Tryd.prog 13 #[.agg #[.int .u64 (a 0), .int .u64 (a 1), .int .u64 (a 2), .int .u64 (a 3)], .agg #[.int .u64 (b 0), .int .u64 (b 1), .int .u64 (b 2), .int .u64 (b 3)], .int .i64 m] W fun e w' => e = .returned (.int .i64 n) ∧ Below W.heap.size W w')) (T1 : ∀ W, Hid (Calls Tryd.prog 14 #[.agg #[.int .u64 (b 0), .int .u64 (b 1), .int .u64 (b 2), .int .u64 (b 3)], .int .u64 n] W fun e w' => e = .returned (.tuple #[.agg #[.int .u64 (v 0), .int .u64 (v 1), .int .u64 (v 2), .int .u64 (v 3)], .bool true]) ∧ Below W.heap.size W w')) (T2 : ∀ W, Hid (Calls Tryd.prog 14 #[.agg #[.int .u64 (b 0), .int .u64 (b 1), .int .u64 (b 2), .int .u64 (b 3)], .int .u64 (n + 1)] W fun e w' => e = .returned (.tuple #[.agg #[.int .u64 0, .int .u64 0, .int .u64 0, .int .u64 0], .bool false]) ∧ Below W.heap.size W w')) (F1 : ∀ W, Hid (Calls Tryd.prog 11 #[.agg #[.int .u64 (v 0), .int .u64 (v 1), .int .u64 (v 2), .int .u64 (v 3)], .agg #[.int .u64 (a 0), .int .u64 (a 1), .int .u64 (a 2), .int .u64 (a 3)]] W fun e w' => e = .returned (.bool true) ∧ Below W.heap.size W w')) (H2 : ∀ W, Hid (Calls Tryd.prog 13 #[.agg #[.int .u64 (a 0), .int .u64 (a 1), .int .u64 (a 2), .int .u64 (a 3)], .agg #[.int .u64 0, .int .u64 0, .int .u64 0, .int .u64 0], .int .i64 m] W fun e w' => e = .returned (.int .i64 m) ∧ Below W.heap.size W w')) (H3 : ∀ W, Hid (Calls Tryd.prog 13 #[.agg #[.int .u64 (a 0), .int .u64 (a 1), .int .u64 (a 2), .int .u64 (a 3)], .agg #[.int .u64 (b 0), .int .u64 (b 1), .int .u64 (b 2), .int .u64 (b 3)], .int .i64 (-1)] W fun e w' => e = .returned (.int .i64 0) ∧ Below W.heap.size W w')) (w : World) :
    Calls Tryd.prog 6 #[.agg #[.int .u64 (a 0), .int .u64 (a 1), .int .u64 (a 2), .int .u64 (a 3)], .agg #[.int .u64 (b 0), .int .u64 (b 1), .int .u64 (b 2), .int .u64 (b 3)], .int .u8 m] w fun e w' => e = .returned (.bool true) ∧ Below w.heap.size w w' := by
  have hlt : decide (n < m) = true := decide_eq_true hnm
  have hm0 : 0 ≤ m := by omega
  obtain ⟨hx0, hy0, hB0⟩ := two_laid w (.cells #[.int .u64 (a 0), .int .u64 (a 1), .int .u64 (a 2), .int .u64 (a 3)] 24) (.cells #[.int .u64 (b 0), .int .u64 (b 1), .int .u64 (b 2), .int .u64 (b 3)] 24)
  have hx := Lib.hid hx0
  have hy := Lib.hid hy0
  have hB := Lib.hid hB0
  clear hx0 hy0 hB0
  go_enter Tryd.func6, Tryd.ntmps6
  go_wp2_with fail
  refine (examples_any _).mono ?_
  rintro e w1 ⟨rfl, hb⟩
  have hx' := Lib.hid (keep0 hb hx.out)
  clear hx
  have hx := hx'
  clear hx'
  have hy' := Lib.hid (keep0 hb hy.out)
  clear hy
  have hy := hy'
  clear hy'
  have hB' := Lib.hid (grows hB.out hb)
  clear hB hb
  have hB := hB'
  clear hB'
  obtain ⟨lx, x0, x1, x2, x3⟩ := has_cells hx.out
  obtain ⟨ly, y0, y1, y2, y3⟩ := has_cells hy.out
  go_wp2_with fail
  refine ((H1 _).out).mono ?_
  rintro e w2 ⟨rfl, hb⟩
  clear lx x0 x1 x2 x3
  clear ly y0 y1 y2 y3
  have hx' := Lib.hid (keep0 hb hx.out)
  clear hx
  have hx := hx'
  clear hx'
  have hy' := Lib.hid (keep0 hb hy.out)
  clear hy
  have hy := hy'
  clear hy'
  have hB' := Lib.hid (grows hB.out hb)
  clear hB hb
  have hB := hB'
  clear hB'
  obtain ⟨ly, y0, y1, y2, y3⟩ := has_cells hy.out
  go_wp2_with fail
  refine ((T1 _).out).mono ?_
  rintro e w3 ⟨rfl, hb⟩
  clear ly y0 y1 y2 y3
  have hx' := Lib.hid (keep0 hb hx.out)
  clear hx
  have hx := hx'
  clear hx'
  have hy' := Lib.hid (keep0 hb hy.out)
  clear hy
  have hy := hy'
  clear hy'
  have hB' := Lib.hid (grows hB.out hb)
  clear hB hb
  have hB := hB'
  clear hB'
  obtain ⟨ly, y0, y1, y2, y3⟩ := has_cells hy.out
  go_wp2_with fail
  refine ((T2 _).out).mono ?_
  rintro e w4 ⟨rfl, hb⟩
  clear ly y0 y1 y2 y3
  have hx' := Lib.hid (keep1 hb hx.out)
  clear hx
  have hx := hx'
  clear hx'
  have hy' := Lib.hid (keep1 hb hy.out)
  clear hy
  have hy := hy'
  clear hy'
  have hp := Lib.hid (new1 hb)
  have hB' := Lib.hid (chain1 hB.out hb)
  clear hB hb
  have hB := hB'
  clear hB'
  obtain ⟨lx, x0, x1, x2, x3⟩ := has_cells hx.out
  obtain ⟨lp, p0, p1, p2, p3⟩ := has_cells hp.out
  go_wp2_with fail
  refine ((F1 _).out).mono ?_
  rintro e w5 ⟨rfl, hb⟩
  clear lx x0 x1 x2 x3
  clear lp p0 p1 p2 p3
  have hx' := Lib.hid (keep1 hb hx.out)
  clear hx
  have hx := hx'
  clear hx'
  have hy' := Lib.hid (keep1 hb hy.out)
  clear hy
  have hy := hy'
  clear hy'
  have hp' := Lib.hid (keep1 hb hp.out)
  clear hp
  have hp := hp'
  clear hp'
  have hq := Lib.hid (new1 hb)
  have hB' := Lib.hid (chain1 hB.out hb)
  clear hB hb
  have hB := hB'
  clear hB'
  obtain ⟨lx, x0, x1, x2, x3⟩ := has_cells hx.out
  obtain ⟨lq, q0, q1, q2, q3⟩ := has_cells hq.out
  go_wp2_with fail
  refine ((H2 _).out).mono ?_
  rintro e w6 ⟨rfl, hb⟩
  clear lx x0 x1 x2 x3
  clear lq q0 q1 q2 q3
  have hx' := Lib.hid (keep0 hb hx.out)
  clear hx
  have hx := hx'
  clear hx'
  have hy' := Lib.hid (keep0 hb hy.out)
  clear hy
  have hy := hy'
  clear hy'
  have hp' := Lib.hid (keep0 hb hp.out)
  clear hp
  have hp := hp'
  clear hp'
  have hq' := Lib.hid (keep0 hb hq.out)
  clear hq
  have hq := hq'
  clear hq'
  have hB' := Lib.hid (grows hB.out hb)
  clear hB hb
  have hB := hB'
  clear hB'
  obtain ⟨lx, x0, x1, x2, x3⟩ := has_cells hx.out
  obtain ⟨ly, y0, y1, y2, y3⟩ := has_cells hy.out
  go_wp2_with fail
  refine ((H3 _).out).mono ?_
  rintro e w7 ⟨rfl, hb⟩
  clear lx x0 x1 x2 x3
  clear ly y0 y1 y2 y3
  have hx' := Lib.hid (keep0 hb hx.out)
  clear hx
  have hx := hx'
  clear hx'
  have hy' := Lib.hid (keep0 hb hy.out)
  clear hy
  have hy := hy'
  clear hy'
  have hp' := Lib.hid (keep0 hb hp.out)
  clear hp
  have hp := hp'
  clear hp'
  have hq' := Lib.hid (keep0 hb hq.out)
  clear hq
  have hq := hq'
  clear hq'
  have hB' := Lib.hid (grows hB.out hb)
  clear hB hb
  have hB := hB'
  clear hB'
  go_wp2
  go_ret
  exact ⟨rfl, hB.out⟩

theorem any (a b : Nat → Int) (ha : InRange a) (hb : InRange b) (m : Int) (hm0 : 0 ≤ m) (hm : m ≤ 255) (w : World) :
    Calls Tryd.prog 6 #[.agg #[.int .u64 (a 0), .int .u64 (a 1), .int .u64 (a 2), .int .u64 (a 3)], .agg #[.int .u64 (b 0), .int .u64 (b 1), .int .u64 (b 2), .int .u64 (b 3)], .int .u8 m] w fun e w' => e = .returned (.bool true) ∧ Below w.heap.size w w' := by
  have hb4 := cnt_bounds (y := b) ha hm0 4 (by omega)
  have hh := held ha hb hm0
  have hmm : m = if 0 < m then m else 0 := by split <;> omega
  have H1 := fun W => Lib.hid (holdsA a b ha hb m m (by omega) (by omega) hmm W)
  have H2 := fun W => Lib.hid (holdsZ a ha m (by omega) hm0 W)
  have h30 : cnt a b 0 4 = 0 := by have := cnt_bounds (y := b) (m := 0) ha (by omega) 4 (by omega); omega
  have H3 := fun W => Lib.hid (h30 ▸ holdsA a b ha hb (-1) 0 (by omega) (by omega) rfl W)
  have rv : InRange fun i => b i * cnt a b m 4 := fun i hi => ⟨(hh i hi).1, Int.le_trans (hh i hi).2 (ha i hi).2⟩
  have T1 := fun W => Lib.hid (timesA b (fun i => b i * cnt a b m 4) (cnt a b m 4) hb ⟨hb4.1, by omega⟩ rv (fun _ _ => rfl) W)
  have F1 := fun W => Lib.hid (fitsA (fun i => b i * cnt a b m 4) a true (fits_true.2 fun i hi => (hh i hi).2) W)
  by_cases hall : ∀ i, i < 4 → b i * (cnt a b m 4 + 1) ≤ 18446744073709551615
  · have T2 := fun W => Lib.hid (timesA b (fun i => b i * (cnt a b m 4 + 1)) (cnt a b m 4 + 1) hb ⟨by omega, by omega⟩ (fun i hi => ⟨Int.mul_nonneg (hb i hi).1 (by omega), hall i hi⟩) (fun _ _ => rfl) W)
    by_cases hlt : cnt a b m 4 < m
    · exact less_more a b (fun i => b i * cnt a b m 4) (fun i => b i * (cnt a b m 4 + 1)) m (cnt a b m 4) hb4.1 hm hlt H1 T1 T2 F1 (fun W => Lib.hid (fitsA (fun i => b i * (cnt a b m 4 + 1)) a false (fits_false.2 (no_more hlt)) W)) H2 H3 w
    · exact full_more a b (fun i => b i * cnt a b m 4) (fun i => b i * (cnt a b m 4 + 1)) m (cnt a b m 4) hb4.1 hm (by omega) H1 T1 T2 F1 H2 H3 w
  · have T2 := fun W => Lib.hid (timesN b (cnt a b m 4 + 1) hb ⟨by omega, by omega⟩ hall W)
    by_cases hlt : cnt a b m 4 < m
    · exact less_none a b (fun i => b i * cnt a b m 4) m (cnt a b m 4) hb4.1 hm hlt H1 T1 T2 F1 H2 H3 w
    · exact full_none a b (fun i => b i * cnt a b m 4) m (cnt a b m 4) hb4.1 hm (by omega) H1 T1 T2 F1 H2 H3 w

theorem walk (a0 a1 a2 a3 : Int) (ha : InRange (of4 a0 a1 a2 a3)) (b0 b1 b2 b3 : Int) (hb : InRange (of4 b0 b1 b2 b3)) (m : Int) (hm0 : 0 ≤ m) (hm : m ≤ 255) (w : World) :
    Calls Tryd.prog 6 #[.agg #[.int .u64 a0, .int .u64 a1, .int .u64 a2, .int .u64 a3], .agg #[.int .u64 b0, .int .u64 b1, .int .u64 b2, .int .u64 b3], .int .u8 m] w fun e w' => e = .returned (.bool true) ∧ Below w.heap.size w w' :=
  any (of4 a0 a1 a2 a3) (of4 b0 b1 b2 b3) ha hb m hm0 hm w
open Go.ChangeShapes Go.WideShapes Go.ChangeAt
set_option maxRecDepth 100000 in
theorem lifted (os : Os) (started : os.Started) (H : Type) (enc : TypeId × Value → H) :
    ReturnsInHanded {} Tryd.checked os 6 .any (fun w args => (Rows.vecHoldsSpec.pre enc Tryd.prog Tryd.f6 Rows.vecHoldsRow.domain false w args ∧ laidMetH Tryd.prog Rows.vecHoldsRow.laid w) ∧ sizedMet enc Tryd.prog Tryd.f6 (OpenSpec.ofChange Rows.vecHoldsSpec) false w args)
      (Rows.vecHoldsSpec.post enc Tryd.prog Tryd.f6 false true false false) := by
  refine returnsInHanded_of_change_and (C := Tryd.checked) (X := fun w _ => laidMetH Tryd.prog Rows.vecHoldsRow.laid w) (fun _ _ _ hh h => h.of_heap hh) Ends.own started (by kernel_rfl) Tryd.func6
    (ChangeSpec.witness_shaped (enc := enc) (C := Tryd.checked) (os := os) (X := fun w _ => laidMetH Tryd.prog Rows.vecHoldsRow.laid w) false (World.laidAll Tryd.prog os Rows.vecHoldsRow.laid) #[.agg #[.int .u64 0, .int .u64 0, .int .u64 0, .int .u64 0], .agg #[.int .u64 0, .int .u64 0, .int .u64 0, .int .u64 0], .int .u8 0] 8 (World.laidAll_os _ _ _)
      (World.shaped_of_ZipB (by kernel_rfl) (by kernel_rfl)) (by kernel_rfl) (by kernel_rfl) (by kernel_rfl)
      (by rw [MakeChecks.laidMetH_plain _ _ _ (by kernel_rfl)]; exact laidMet_laidAll _ (by kernel_rfl) (by kernel_rfl))) ?_
  intro W base args ds gs before hval0 hW _ _ _ _
  have hval : ∀ (j : Nat) t v, Tryd.f6.params[j]? = some t → args[j]? = some v → Value.okWide Tryd.prog W .any base t v := hval0
  have hW' := hW
  obtain ⟨p, q, hA0, hV, rfl, hfz, hnd⟩ := hW
  have hA : DataW.TrodAll enc Tryd.prog W 0 (fun _ => true) true Tryd.f6.params.toList args.toList ds p := hA0
  rw [Tryd.params6] at hA hval
  obtain ⟨v0, vs0, d0, ds0, p0, q0, hargs, rfl, rfl, h0, r0⟩ := trodAll_cons hA
  obtain ⟨v1, vs1, d1, ds1, p1, q1, rfl, rfl, rfl, h1, r1⟩ := trodAll_cons r0
  obtain ⟨v2, vs2, d2, ds2, p2, q2, rfl, rfl, rfl, h2, r2⟩ := trodAll_cons r1
  obtain ⟨rfl, rfl, rfl⟩ := trodAll_nil r2
  obtain rfl : args = #[v0, v1, v2] := by cases args; simp_all
  obtain ⟨rfl, rfl⟩ := trodVars_none hV
  obtain ⟨a0, b0, c0, e0, rfl, w0⟩ := Vec.open_vec (hval 0 24 v0 rfl rfl) h0
  obtain ⟨a1, b1, c1, e1, rfl, w1⟩ := Vec.open_vec (hval 1 24 v1 rfl rfl) h1
  obtain ⟨a2, rfl, rfl, rfl, w2⟩ := open_int Tryd.underlying5 (hval 2 5 v2 rfl rfl) h2
  have b2 := bounds_u8 w2
  refine (walk a0 b0 c0 e0 w0 a1 b1 c1 e1 w1 a2 b2.1 b2.2 W).mono fun e W' ⟨he, hb⟩ => ?_
  subst he
  exact ⟨_, rfl, Ends.law_end Ends.laidOut (by rw [Tryd.params6]; decide +kernel) rfl (by kernel_rfl) Tryd.underlying4 hW' rfl hb⟩

theorem row : Rows.VecHoldsSaid :=
  OpenClaim.holds_of_wide 6 Tryd.f6 rfl rfl rfl rfl rfl rfl rfl ⟨rfl, rfl, rfl, rfl, rfl⟩ rfl rfl rfl rfl rfl (by kernel_rfl) Tryd.func6 (by kernel_rfl)
    (of_decide_eq_true (by kernel_rfl)) (by unfold Func.isWrapper; first | (rw [if_pos (by decide +kernel)]; kernel_rfl) | (rw [if_neg (by decide +kernel)]; exact ⟨rfl, rfl⟩))
    (fun os started H enc _ => lifted os started H enc)

/-- The statement: the tied card. -/
theorem proved : Rows.VecHoldsCardSaid :=
  Claim7.holds_tied_plain_at .later [] [.data, .data, .data, .data, .sentinel, .sentinel, .pinned] true Rows.vecHoldsCard.stood.harness true row (fun _ h => by cases h) (by kernel_rfl) (fun _ h => by cases h) vecHolds_row_tie rfl ⟨rfl, rfl⟩ (by kernel_rfl) rfl
    (fun f fn hf hfn => by
      obtain rfl : f = 6 := Option.some.inj ((show Tryd.prog.funcNamed "demesne/demesnelaw03.VecHolds" = some 6 by kernel_rfl).symm.trans hf) |>.symm
      obtain rfl : fn = Tryd.f6 := (Option.some.inj (Tryd.func6.symm.trans hfn)).symm
      exact ⟨by kernel_rfl, fun j t ht => by
        rw [Tryd.params6] at ht
        have hm : t ∈ [24, 24, 5] := by simpa using Array.mem_of_getElem? ht
        have hall : ([24, 24, 5].all fun u => !Tryd.prog.wantsStandIn u) = true := by kernel_rfl
        exact (show Tryd.prog.wantsStandIn t = false by simpa using List.all_eq_true.1 hall t hm)⟩)
    (by kernel_rfl)
end Go.Proofs.YtaljedficmpjpaaDoor.vecHolds
