/- Proved: demesnelaw03.VecOrder answers true for every three amounts of four numbers of 64 bits, and leaves them as they were. No condition beside the row's own; the card ties the listed tables to the pruned copy. -/
import Derived.Test.YtaljedficmpjpaaDoorVArgs
import Derived.Test.YtaljedficmpjpaaDoorCards
import Derived.Test.YtaljedficmpjpaaDoorTie
import Derived.PlainAid
import Derived.Lay
import Derived.SevenTiedAt
import Derived.LaidMore
import Derived.Stop.Joined
namespace Go.Proofs.YtaljedficmpjpaaDoor.vecOrder
open Go.RowKit Go.Proofs.YtaljedficmpjpaaDoor.Vec

theorem cmp_cases (x y : Int) : (x < y ∧ cmp x y = -1) ∨ (x = y ∧ cmp x y = 0) ∨ (y < x ∧ cmp x y = 1) := by
  unfold cmp
  by_cases h : x < y
  · exact .inl ⟨h, if_pos h⟩
  · rw [if_neg h]
    by_cases h2 : y < x
    · exact .inr (.inr ⟨h2, if_pos h2⟩)
    · exact .inr (.inl ⟨by omega, if_neg h2⟩)
/-- The order, kind by kind. -/
theorem ord_cases (a b : Nat → Int) :
    ((a 0 < b 0 ∨ (a 0 = b 0 ∧ (a 1 < b 1 ∨ (a 1 = b 1 ∧ (a 2 < b 2 ∨ (a 2 = b 2 ∧ a 3 < b 3)))))) ∧ ordV a b = -1) ∨
    ((a 0 = b 0 ∧ a 1 = b 1 ∧ a 2 = b 2 ∧ a 3 = b 3) ∧ ordV a b = 0) ∨
    ((b 0 < a 0 ∨ (a 0 = b 0 ∧ (b 1 < a 1 ∨ (a 1 = b 1 ∧ (b 2 < a 2 ∨ (a 2 = b 2 ∧ b 3 < a 3)))))) ∧ ordV a b = 1) := by
  unfold ordV
  rcases cmp_cases (a 0) (b 0) with ⟨h0, e0⟩ | ⟨h0, e0⟩ | ⟨h0, e0⟩
  · rw [e0, if_pos (by decide)]; exact .inl ⟨.inl h0, rfl⟩
  · rw [e0, if_neg (by decide)]
    rcases cmp_cases (a 1) (b 1) with ⟨h1, e1⟩ | ⟨h1, e1⟩ | ⟨h1, e1⟩
    · rw [e1, if_pos (by decide)]; exact .inl ⟨.inr ⟨h0, .inl h1⟩, rfl⟩
    · rw [e1, if_neg (by decide)]
      rcases cmp_cases (a 2) (b 2) with ⟨h2, e2⟩ | ⟨h2, e2⟩ | ⟨h2, e2⟩
      · rw [e2, if_pos (by decide)]; exact .inl ⟨.inr ⟨h0, .inr ⟨h1, .inl h2⟩⟩, rfl⟩
      · rw [e2, if_neg (by decide)]
        rcases cmp_cases (a 3) (b 3) with ⟨h3, e3⟩ | ⟨h3, e3⟩ | ⟨h3, e3⟩
        · rw [e3]; exact .inl ⟨.inr ⟨h0, .inr ⟨h1, .inr ⟨h2, h3⟩⟩⟩, rfl⟩
        · rw [e3]; exact .inr (.inl ⟨⟨h0, h1, h2, h3⟩, rfl⟩)
        · rw [e3]; exact .inr (.inr ⟨.inr ⟨h0, .inr ⟨h1, .inr ⟨h2, h3⟩⟩⟩, rfl⟩)
      · rw [e2, if_pos (by decide)]; exact .inr (.inr ⟨.inr ⟨h0, .inr ⟨h1, .inl h2⟩⟩, rfl⟩)
    · rw [e1, if_pos (by decide)]; exact .inr (.inr ⟨.inr ⟨h0, .inl h1⟩, rfl⟩)
  · rw [e0, if_pos (by decide)]; exact .inr (.inr ⟨.inl h0, rfl⟩)
theorem ord_turned (a b : Nat → Int) : ordV b a = - ordV a b := by
  rcases ord_cases a b with ⟨h, e⟩ | ⟨h, e⟩ | ⟨h, e⟩ <;> rcases ord_cases b a with ⟨h', e'⟩ | ⟨h', e'⟩ | ⟨h', e'⟩ <;> (rw [e, e']; try rfl) <;> omega
theorem ord_on {a b c : Nat → Int} (h1 : ordV a b = -1) (h2 : ordV b c = -1) : ordV a c = -1 := by
  rcases ord_cases a b with ⟨h, e⟩ | ⟨h, e⟩ | ⟨h, e⟩
  · rcases ord_cases b c with ⟨k, f⟩ | ⟨k, f⟩ | ⟨k, f⟩
    · rcases ord_cases a c with ⟨m, g⟩ | ⟨m, g⟩ | ⟨m, g⟩
      · exact g
      · omega
      · omega
    · rw [f] at h2; omega
    · rw [f] at h2; omega
  · rw [e] at h1; omega
  · rw [e] at h1; omega
theorem orderIs (a b : Nat → Int) (r : Int) (h : ordV a b = r) (w : World) : Calls Tryd.prog 12 #[.agg #[.int .u64 (a 0), .int .u64 (a 1), .int .u64 (a 2), .int .u64 (a 3)], .agg #[.int .u64 (b 0), .int .u64 (b 1), .int .u64 (b 2), .int .u64 (b 3)]] w fun e w' => e = .returned (.int .i64 r) ∧ Below w.heap.size w w' := h ▸ orderA a b w

set_option maxRecDepth 100000 in
set_option maxHeartbeats 4000000 in
theorem less_not (a b c : Nat → Int) (hp : ordV a b = -1) (hq : ordV b a = 1) (hs : same (a 0) (a 1) (a 2) (a 3) (b 0) (b 1) (b 2) (b 3) = false) (r : Int) (hr : ordV b c = r) (hr0 : 0 ≤ r) (w : World) :
    Calls Tryd.prog 5 #[.agg #[.int .u64 (a 0), .int .u64 (a 1), .int .u64 (a 2), .int .u64 (a 3)], .agg #[.int .u64 (b 0), .int .u64 (b 1), .int .u64 (b 2), .int .u64 (b 3)], .agg #[.int .u64 (c 0), .int .u64 (c 1), .int .u64 (c 2), .int .u64 (c 3)]] w fun e w' => e = .returned (.bool true) ∧ Below w.heap.size w w' := by
  have heq := equal_vec'
  have hg := guard_vec
  have Oab := fun W => Lib.hid (orderIs a b (-1) hp W)
  have Oba := fun W => Lib.hid (orderIs b a (1) hq W)
  have Obc := fun W => Lib.hid (orderIs b c r hr W)
  clear hp hq hr
  obtain ⟨hx0, hy0, hu0, hB0⟩ := three_laid w (.cells #[.int .u64 (a 0), .int .u64 (a 1), .int .u64 (a 2), .int .u64 (a 3)] 24) (.cells #[.int .u64 (b 0), .int .u64 (b 1), .int .u64 (b 2), .int .u64 (b 3)] 24) (.cells #[.int .u64 (c 0), .int .u64 (c 1), .int .u64 (c 2), .int .u64 (c 3)] 24)
  have hx := Lib.hid hx0
  have hy := Lib.hid hy0
  have hu := Lib.hid hu0
  have hB := Lib.hid hB0
  clear hx0 hy0 hu0 hB0
  go_enter Tryd.func5, Tryd.ntmps5
  go_wp2_with fail
  refine (examples_any _).mono ?_
  rintro e w1 ⟨rfl, hb⟩
  have hx' := Lib.hid (keep0 hb hx.out)
  clear hx
  have hx := hx'
  clear hx'
  have hy' := Lib.hid (keep0 hb hy.out)
  clear hy
  have hy := hy'
  clear hy'
  have hu' := Lib.hid (keep0 hb hu.out)
  clear hu
  have hu := hu'
  clear hu'
  have hB' := Lib.hid (grows hB.out hb)
  clear hB hb
  have hB := hB'
  clear hB'
  obtain ⟨lx, x0, x1, x2, x3⟩ := has_cells hx.out
  obtain ⟨ly, y0, y1, y2, y3⟩ := has_cells hy.out
  go_wp2_with fail
  refine ((Oab _).out).mono ?_
  rintro e w2 ⟨rfl, hb⟩
  clear lx x0 x1 x2 x3
  clear ly y0 y1 y2 y3
  have hx' := Lib.hid (keep0 hb hx.out)
  clear hx
  have hx := hx'
  clear hx'
  have hy' := Lib.hid (keep0 hb hy.out)
  clear hy
  have hy := hy'
  clear hy'
  have hu' := Lib.hid (keep0 hb hu.out)
  clear hu
  have hu := hu'
  clear hu'
  have hB' := Lib.hid (grows hB.out hb)
  clear hB hb
  have hB := hB'
  clear hB'
  obtain ⟨lx, x0, x1, x2, x3⟩ := has_cells hx.out
  obtain ⟨ly, y0, y1, y2, y3⟩ := has_cells hy.out
  go_wp2_with fail
  refine ((Oba _).out).mono ?_
  rintro e w3 ⟨rfl, hb⟩
  clear lx x0 x1 x2 x3
  clear ly y0 y1 y2 y3
  have hx' := Lib.hid (keep0 hb hx.out)
  clear hx
  have hx := hx'
  clear hx'
  have hy' := Lib.hid (keep0 hb hy.out)
  clear hy
  have hy := hy'
  clear hy'
  have hu' := Lib.hid (keep0 hb hu.out)
  clear hu
  have hu := hu'
  clear hu'
  have hB' := Lib.hid (grows hB.out hb)
  clear hB hb
  have hB := hB'
  clear hB'
  obtain ⟨lx, x0, x1, x2, x3⟩ := has_cells hx.out
  obtain ⟨ly, y0, y1, y2, y3⟩ := has_cells hy.out
  obtain ⟨lu, u0, u1, u2, u3⟩ := has_cells hu.out
  go_wp2_with fail
  refine ((Obc _).out).mono ?_
  rintro e w4 ⟨rfl, hb⟩
  clear lx x0 x1 x2 x3
  clear ly y0 y1 y2 y3
  clear lu u0 u1 u2 u3
  have hx' := Lib.hid (keep0 hb hx.out)
  clear hx
  have hx := hx'
  clear hx'
  have hy' := Lib.hid (keep0 hb hy.out)
  clear hy
  have hy := hy'
  clear hy'
  have hu' := Lib.hid (keep0 hb hu.out)
  clear hu
  have hu := hu'
  clear hu'
  have hB' := Lib.hid (grows hB.out hb)
  clear hB hb
  have hB := hB'
  clear hB'
  obtain ⟨lx, x0, x1, x2, x3⟩ := has_cells hx.out
  obtain ⟨lu, u0, u1, u2, u3⟩ := has_cells hu.out
  go_wp2
  go_ret
  exact ⟨rfl, hB.out⟩

set_option maxRecDepth 100000 in
set_option maxHeartbeats 4000000 in
theorem less_less (a b c : Nat → Int) (hp : ordV a b = -1) (hq : ordV b a = 1) (hs : same (a 0) (a 1) (a 2) (a 3) (b 0) (b 1) (b 2) (b 3) = false) (r : Int) (hr : ordV b c = r) (hr0 : r < 0) (ht : ordV a c = -1) (w : World) :
    Calls Tryd.prog 5 #[.agg #[.int .u64 (a 0), .int .u64 (a 1), .int .u64 (a 2), .int .u64 (a 3)], .agg #[.int .u64 (b 0), .int .u64 (b 1), .int .u64 (b 2), .int .u64 (b 3)], .agg #[.int .u64 (c 0), .int .u64 (c 1), .int .u64 (c 2), .int .u64 (c 3)]] w fun e w' => e = .returned (.bool true) ∧ Below w.heap.size w w' := by
  have heq := equal_vec'
  have hg := guard_vec
  have Oab := fun W => Lib.hid (orderIs a b (-1) hp W)
  have Oba := fun W => Lib.hid (orderIs b a (1) hq W)
  have Obc := fun W => Lib.hid (orderIs b c r hr W)
  have Oac := fun W => Lib.hid (orderIs a c (-1) ht W)
  clear hp hq hr ht
  obtain ⟨hx0, hy0, hu0, hB0⟩ := three_laid w (.cells #[.int .u64 (a 0), .int .u64 (a 1), .int .u64 (a 2), .int .u64 (a 3)] 24) (.cells #[.int .u64 (b 0), .int .u64 (b 1), .int .u64 (b 2), .int .u64 (b 3)] 24) (.cells #[.int .u64 (c 0), .int .u64 (c 1), .int .u64 (c 2), .int .u64 (c 3)] 24)
  have hx := Lib.hid hx0
  have hy := Lib.hid hy0
  have hu := Lib.hid hu0
  have hB := Lib.hid hB0
  clear hx0 hy0 hu0 hB0
  go_enter Tryd.func5, Tryd.ntmps5
  go_wp2_with fail
  refine (examples_any _).mono ?_
  rintro e w1 ⟨rfl, hb⟩
  have hx' := Lib.hid (keep0 hb hx.out)
  clear hx
  have hx := hx'
  clear hx'
  have hy' := Lib.hid (keep0 hb hy.out)
  clear hy
  have hy := hy'
  clear hy'
  have hu' := Lib.hid (keep0 hb hu.out)
  clear hu
  have hu := hu'
  clear hu'
  have hB' := Lib.hid (grows hB.out hb)
  clear hB hb
  have hB := hB'
  clear hB'
  obtain ⟨lx, x0, x1, x2, x3⟩ := has_cells hx.out
  obtain ⟨ly, y0, y1, y2, y3⟩ := has_cells hy.out
  go_wp2_with fail
  refine ((Oab _).out).mono ?_
  rintro e w2 ⟨rfl, hb⟩
  clear lx x0 x1 x2 x3
  clear ly y0 y1 y2 y3
  have hx' := Lib.hid (keep0 hb hx.out)
  clear hx
  have hx := hx'
  clear hx'
  have hy' := Lib.hid (keep0 hb hy.out)
  clear hy
  have hy := hy'
  clear hy'
  have hu' := Lib.hid (keep0 hb hu.out)
  clear hu
  have hu := hu'
  clear hu'
  have hB' := Lib.hid (grows hB.out hb)
  clear hB hb
  have hB := hB'
  clear hB'
  obtain ⟨lx, x0, x1, x2, x3⟩ := has_cells hx.out
  obtain ⟨ly, y0, y1, y2, y3⟩ := has_cells hy.out
  go_wp2_with fail
  refine ((Oba _).out).mono ?_
  rintro e w3 ⟨rfl, hb⟩
  clear lx x0 x1 x2 x3
  clear ly y0 y1 y2 y3
  have hx' := Lib.hid (keep0 hb hx.out)
  clear hx
  have hx := hx'
  clear hx'
  have hy' := Lib.hid (keep0 hb hy.out)
  clear hy
  have hy := hy'
  clear hy'
  have hu' := Lib.hid (keep0 hb hu.out)
  clear hu
  have hu := hu'
  clear hu'
  have hB' := Lib.hid (grows hB.out hb)
  clear hB hb
  have hB := hB'
  clear hB'
  obtain ⟨lx, x0, x1, x2, x3⟩ := has_cells hx.out
  obtain ⟨ly, y0, y1, y2, y3⟩ := has_cells hy.out
  obtain ⟨lu, u0, u1, u2, u3⟩ := has_cells hu.out
  go_wp2_with fail
  refine ((Obc _).out).mono ?_
  rintro e w4 ⟨rfl, hb⟩
  clear lx x0 x1 x2 x3
  clear ly y0 y1 y2 y3
  clear lu u0 u1 u2 u3
  have hx' := Lib.hid (keep0 hb hx.out)
  clear hx
  have hx := hx'
  clear hx'
  have hy' := Lib.hid (keep0 hb hy.out)
  clear hy
  have hy := hy'
  clear hy'
  have hu' := Lib.hid (keep0 hb hu.out)
  clear hu
  have hu := hu'
  clear hu'
  have hB' := Lib.hid (grows hB.out hb)
  clear hB hb
  have hB := hB'
  clear hB'
  obtain ⟨lx, x0, x1, x2, x3⟩ := has_cells hx.out
  obtain ⟨lu, u0, u1, u2, u3⟩ := has_cells hu.out
  go_wp2_with fail
  refine ((Oac _).out).mono ?_
  rintro e w5 ⟨rfl, hb⟩
  clear lx x0 x1 x2 x3
  clear lu u0 u1 u2 u3
  have hx' := Lib.hid (keep0 hb hx.out)
  clear hx
  have hx := hx'
  clear hx'
  have hy' := Lib.hid (keep0 hb hy.out)
  clear hy
  have hy := hy'
  clear hy'
  have hu' := Lib.hid (keep0 hb hu.out)
  clear hu
  have hu := hu'
  clear hu'
  have hB' := Lib.hid (grows hB.out hb)
  clear hB hb
  have hB := hB'
  clear hB'
  go_wp2
  go_ret
  exact ⟨rfl, hB.out⟩

set_option maxRecDepth 100000 in
set_option maxHeartbeats 4000000 in
theorem alike (a b c : Nat → Int) (hp : ordV a b = 0) (hq : ordV b a = 0) (hs : same (a 0) (a 1) (a 2) (a 3) (b 0) (b 1) (b 2) (b 3) = true) (w : World) :
    Calls Tryd.prog 5 #[.agg #[.int .u64 (a 0), .int .u64 (a 1), .int .u64 (a 2), .int .u64 (a 3)], .agg #[.int .u64 (b 0), .int .u64 (b 1), .int .u64 (b 2), .int .u64 (b 3)], .agg #[.int .u64 (c 0), .int .u64 (c 1), .int .u64 (c 2), .int .u64 (c 3)]] w fun e w' => e = .returned (.bool true) ∧ Below w.heap.size w w' := by
  have heq := equal_vec'
  have hg := guard_vec
  have Oab := fun W => Lib.hid (orderIs a b (0) hp W)
  have Oba := fun W => Lib.hid (orderIs b a (0) hq W)
  clear hp hq
  obtain ⟨hx0, hy0, hu0, hB0⟩ := three_laid w (.cells #[.int .u64 (a 0), .int .u64 (a 1), .int .u64 (a 2), .int .u64 (a 3)] 24) (.cells #[.int .u64 (b 0), .int .u64 (b 1), .int .u64 (b 2), .int .u64 (b 3)] 24) (.cells #[.int .u64 (c 0), .int .u64 (c 1), .int .u64 (c 2), .int .u64 (c 3)] 24)
  have hx := Lib.hid hx0
  have hy := Lib.hid hy0
  have hu := Lib.hid hu0
  have hB := Lib.hid hB0
  clear hx0 hy0 hu0 hB0
  go_enter Tryd.func5, Tryd.ntmps5
  go_wp2_with fail
  refine (examples_any _).mono ?_
  rintro e w1 ⟨rfl, hb⟩
  have hx' := Lib.hid (keep0 hb hx.out)
  clear hx
  have hx := hx'
  clear hx'
  have hy' := Lib.hid (keep0 hb hy.out)
  clear hy
  have hy := hy'
  clear hy'
  have hu' := Lib.hid (keep0 hb hu.out)
  clear hu
  have hu := hu'
  clear hu'
  have hB' := Lib.hid (grows hB.out hb)
  clear hB hb
  have hB := hB'
  clear hB'
  obtain ⟨lx, x0, x1, x2, x3⟩ := has_cells hx.out
  obtain ⟨ly, y0, y1, y2, y3⟩ := has_cells hy.out
  go_wp2_with fail
  refine ((Oab _).out).mono ?_
  rintro e w2 ⟨rfl, hb⟩
  clear lx x0 x1 x2 x3
  clear ly y0 y1 y2 y3
  have hx' := Lib.hid (keep0 hb hx.out)
  clear hx
  have hx := hx'
  clear hx'
  have hy' := Lib.hid (keep0 hb hy.out)
  clear hy
  have hy := hy'
  clear hy'
  have hu' := Lib.hid (keep0 hb hu.out)
  clear hu
  have hu := hu'
  clear hu'
  have hB' := Lib.hid (grows hB.out hb)
  clear hB hb
  have hB := hB'
  clear hB'
  obtain ⟨lx, x0, x1, x2, x3⟩ := has_cells hx.out
  obtain ⟨ly, y0, y1, y2, y3⟩ := has_cells hy.out
  go_wp2_with fail
  refine ((Oba _).out).mono ?_
  rintro e w3 ⟨rfl, hb⟩
  clear lx x0 x1 x2 x3
  clear ly y0 y1 y2 y3
  have hx' := Lib.hid (keep0 hb hx.out)
  clear hx
  have hx := hx'
  clear hx'
  have hy' := Lib.hid (keep0 hb hy.out)
  clear hy
  have hy := hy'
  clear hy'
  have hu' := Lib.hid (keep0 hb hu.out)
  clear hu
  have hu := hu'
  clear hu'
  have hB' := Lib.hid (grows hB.out hb)
  clear hB hb
  have hB := hB'
  clear hB'
  obtain ⟨lx, x0, x1, x2, x3⟩ := has_cells hx.out
  obtain ⟨ly, y0, y1, y2, y3⟩ := has_cells hy.out
  obtain ⟨lu, u0, u1, u2, u3⟩ := has_cells hu.out
  go_wp2
  go_ret
  exact ⟨rfl, hB.out⟩

set_option maxRecDepth 100000 in
set_option maxHeartbeats 4000000 in
theorem more (a b c : Nat → Int) (hp : ordV a b = 1) (hq : ordV b a = -1) (hs : same (a 0) (a 1) (a 2) (a 3) (b 0) (b 1) (b 2) (b 3) = false) (w : World) :
    Calls Tryd.prog 5 #[.agg #[.int .u64 (a 0), .int .u64 (a 1), .int .u64 (a 2), .int .u64 (a 3)], .agg #[.int .u64 (b 0), .int .u64 (b 1), .int .u64 (b 2), .int .u64 (b 3)], .agg #[.int .u64 (c 0), .int .u64 (c 1), .int .u64 (c 2), .int .u64 (c 3)]] w fun e w' => e = .returned (.bool true) ∧ Below w.heap.size w w' := by
  have heq := equal_vec'
  have hg := guard_vec
  have Oab := fun W => Lib.hid (orderIs a b (1) hp W)
  have Oba := fun W => Lib.hid (orderIs b a (-1) hq W)
  clear hp hq
  obtain ⟨hx0, hy0, hu0, hB0⟩ := three_laid w (.cells #[.int .u64 (a 0), .int .u64 (a 1), .int .u64 (a 2), .int .u64 (a 3)] 24) (.cells #[.int .u64 (b 0), .int .u64 (b 1), .int .u64 (b 2), .int .u64 (b 3)] 24) (.cells #[.int .u64 (c 0), .int .u64 (c 1), .int .u64 (c 2), .int .u64 (c 3)] 24)
  have hx := Lib.hid hx0
  have hy := Lib.hid hy0
  have hu := Lib.hid hu0
  have hB := Lib.hid hB0
  clear hx0 hy0 hu0 hB0
  go_enter Tryd.func5, Tryd.ntmps5
  go_wp2_with fail
  refine (examples_any _).mono ?_
  rintro e w1 ⟨rfl, hb⟩
  have hx' := Lib.hid (keep0 hb hx.out)
  clear hx
  have hx := hx'
  clear hx'
  have hy' := Lib.hid (keep0 hb hy.out)
  clear hy
  have hy := hy'
  clear hy'
  have hu' := Lib.hid (keep0 hb hu.out)
  clear hu
  have hu := hu'
  clear hu'
  have hB' := Lib.hid (grows hB.out hb)
  clear hB hb
  have hB := hB'
  clear hB'
  obtain ⟨lx, x0, x1, x2, x3⟩ := has_cells hx.out
  obtain ⟨ly, y0, y1, y2, y3⟩ := has_cells hy.out
  go_wp2_with fail
  refine ((Oab _).out).mono ?_
  rintro e w2 ⟨rfl, hb⟩
  clear lx x0 x1 x2 x3
  clear ly y0 y1 y2 y3
  have hx' := Lib.hid (keep0 hb hx.out)
  clear hx
  have hx := hx'
  clear hx'
  have hy' := Lib.hid (keep0 hb hy.out)
  clear hy
  have hy := hy'
  clear hy'
  have hu' := Lib.hid (keep0 hb hu.out)
  clear hu
  have hu := hu'
  clear hu'
  have hB' := Lib.hid (grows hB.out hb)
  clear hB hb
  have hB := hB'
  clear hB'
  obtain ⟨lx, x0, x1, x2, x3⟩ := has_cells hx.out
  obtain ⟨ly, y0, y1, y2, y3⟩ := has_cells hy.out
  go_wp2_with fail
  refine ((Oba _).out).mono ?_
  rintro e w3 ⟨rfl, hb⟩
  clear lx x0 x1 x2 x3
  clear ly y0 y1 y2 y3
  have hx' := Lib.hid (keep0 hb hx.out)
  clear hx
  have hx := hx'
  clear hx'
  have hy' := Lib.hid (keep0 hb hy.out)
  clear hy
  have hy := hy'
  clear hy'
  have hu' := Lib.hid (keep0 hb hu.out)
  clear hu
  have hu := hu'
  clear hu'
  have hB' := Lib.hid (grows hB.out hb)
  clear hB hb
  have hB := hB'
  clear hB'
  obtain ⟨lx, x0, x1, x2, x3⟩ := has_cells hx.out
  obtain ⟨ly, y0, y1, y2, y3⟩ := has_cells hy.out
  obtain ⟨lu, u0, u1, u2, u3⟩ := has_cells hu.out
  go_wp2
  go_ret
  exact ⟨rfl, hB.out⟩

theorem any (a b c : Nat → Int) (w : World) :
    Calls Tryd.prog 5 #[.agg #[.int .u64 (a 0), .int .u64 (a 1), .int .u64 (a 2), .int .u64 (a 3)], .agg #[.int .u64 (b 0), .int .u64 (b 1), .int .u64 (b 2), .int .u64 (b 3)], .agg #[.int .u64 (c 0), .int .u64 (c 1), .int .u64 (c 2), .int .u64 (c 3)]] w fun e w' => e = .returned (.bool true) ∧ Below w.heap.size w w' := by
  have hn := ord_turned a b
  rcases ord_cases a b with ⟨h, e⟩ | ⟨h, e⟩ | ⟨h, e⟩
  · have hs : same (a 0) (a 1) (a 2) (a 3) (b 0) (b 1) (b 2) (b 3) = false := sameV_false.2 fun k => by have := k 0 (by omega); have := k 1 (by omega); have := k 2 (by omega); have := k 3 (by omega); omega
    rw [e] at hn
    by_cases hr : 0 ≤ ordV b c
    · exact less_not a b c e hn hs _ rfl hr w
    · exact less_less a b c e hn hs _ rfl (by omega) (ord_on e (by
        rcases ord_cases b c with ⟨k, f⟩ | ⟨k, f⟩ | ⟨k, f⟩
        · exact f
        · rw [f] at hr; omega
        · rw [f] at hr; omega)) w
  · rw [e] at hn
    exact alike a b c e hn (sameV_true.2 (all4 h.1 h.2.1 h.2.2.1 h.2.2.2)) w
  · have hs : same (a 0) (a 1) (a 2) (a 3) (b 0) (b 1) (b 2) (b 3) = false := sameV_false.2 fun k => by have := k 0 (by omega); have := k 1 (by omega); have := k 2 (by omega); have := k 3 (by omega); omega
    rw [e] at hn
    exact more a b c e hn hs w

theorem walk (a0 a1 a2 a3 : Int) (_ : InRange (of4 a0 a1 a2 a3)) (b0 b1 b2 b3 : Int) (_ : InRange (of4 b0 b1 b2 b3)) (c0 c1 c2 c3 : Int) (_ : InRange (of4 c0 c1 c2 c3)) (w : World) :
    Calls Tryd.prog 5 #[.agg #[.int .u64 a0, .int .u64 a1, .int .u64 a2, .int .u64 a3], .agg #[.int .u64 b0, .int .u64 b1, .int .u64 b2, .int .u64 b3], .agg #[.int .u64 c0, .int .u64 c1, .int .u64 c2, .int .u64 c3]] w fun e w' => e = .returned (.bool true) ∧ Below w.heap.size w w' :=
  any (of4 a0 a1 a2 a3) (of4 b0 b1 b2 b3) (of4 c0 c1 c2 c3) w
open Go.ChangeShapes Go.WideShapes Go.ChangeAt
set_option maxRecDepth 100000 in
theorem lifted (os : Os) (started : os.Started) (H : Type) (enc : TypeId × Value → H) :
    ReturnsInHanded {} Tryd.checked os 5 .any (fun w args => (Rows.vecOrderSpec.pre enc Tryd.prog Tryd.f5 Rows.vecOrderRow.domain false w args ∧ laidMetH Tryd.prog Rows.vecOrderRow.laid w) ∧ sizedMet enc Tryd.prog Tryd.f5 (OpenSpec.ofChange Rows.vecOrderSpec) false w args)
      (Rows.vecOrderSpec.post enc Tryd.prog Tryd.f5 false true false false) := by
  refine returnsInHanded_of_change_and (C := Tryd.checked) (X := fun w _ => laidMetH Tryd.prog Rows.vecOrderRow.laid w) (fun _ _ _ hh h => h.of_heap hh) Ends.own started (by kernel_rfl) Tryd.func5
    (ChangeSpec.witness_shaped (enc := enc) (C := Tryd.checked) (os := os) (X := fun w _ => laidMetH Tryd.prog Rows.vecOrderRow.laid w) false (World.laidAll Tryd.prog os Rows.vecOrderRow.laid) #[.agg #[.int .u64 0, .int .u64 0, .int .u64 0, .int .u64 0], .agg #[.int .u64 0, .int .u64 0, .int .u64 0, .int .u64 0], .agg #[.int .u64 0, .int .u64 0, .int .u64 0, .int .u64 0]] 8 (World.laidAll_os _ _ _)
      (World.shaped_of_ZipB (by kernel_rfl) (by kernel_rfl)) (by kernel_rfl) (by kernel_rfl) (by kernel_rfl)
      (by rw [MakeChecks.laidMetH_plain _ _ _ (by kernel_rfl)]; exact laidMet_laidAll _ (by kernel_rfl) (by kernel_rfl))) ?_
  intro W base args ds gs before hval0 hW _ _ _ _
  have hval : ∀ (j : Nat) t v, Tryd.f5.params[j]? = some t → args[j]? = some v → Value.okWide Tryd.prog W .any base t v := hval0
  have hW' := hW
  obtain ⟨p, q, hA0, hV, rfl, hfz, hnd⟩ := hW
  have hA : DataW.TrodAll enc Tryd.prog W 0 (fun _ => true) true Tryd.f5.params.toList args.toList ds p := hA0
  rw [Tryd.params5] at hA hval
  obtain ⟨v0, vs0, d0, ds0, p0, q0, hargs, rfl, rfl, h0, r0⟩ := trodAll_cons hA
  obtain ⟨v1, vs1, d1, ds1, p1, q1, rfl, rfl, rfl, h1, r1⟩ := trodAll_cons r0
  obtain ⟨v2, vs2, d2, ds2, p2, q2, rfl, rfl, rfl, h2, r2⟩ := trodAll_cons r1
  obtain ⟨rfl, rfl, rfl⟩ := trodAll_nil r2
  obtain rfl : args = #[v0, v1, v2] := by cases args; simp_all
  obtain ⟨rfl, rfl⟩ := trodVars_none hV
  obtain ⟨a0, b0, c0, e0, rfl, w0⟩ := Vec.open_vec (hval 0 24 v0 rfl rfl) h0
  obtain ⟨a1, b1, c1, e1, rfl, w1⟩ := Vec.open_vec (hval 1 24 v1 rfl rfl) h1
  obtain ⟨a2, b2, c2, e2, rfl, w2⟩ := Vec.open_vec (hval 2 24 v2 rfl rfl) h2
  refine (walk a0 b0 c0 e0 w0 a1 b1 c1 e1 w1 a2 b2 c2 e2 w2 W).mono fun e W' ⟨he, hb⟩ => ?_
  subst he
  exact ⟨_, rfl, Ends.law_end Ends.laidOut (by rw [Tryd.params5]; decide +kernel) rfl (by kernel_rfl) Tryd.underlying4 hW' rfl hb⟩

theorem row : Rows.VecOrderSaid :=
  OpenClaim.holds_of_wide 5 Tryd.f5 rfl rfl rfl rfl rfl rfl rfl ⟨rfl, rfl, rfl, rfl, rfl⟩ rfl rfl rfl rfl rfl (by kernel_rfl) Tryd.func5 (by kernel_rfl)
    (of_decide_eq_true (by kernel_rfl)) (by unfold Func.isWrapper; first | (rw [if_pos (by decide +kernel)]; kernel_rfl) | (rw [if_neg (by decide +kernel)]; exact ⟨rfl, rfl⟩))
    (fun os started H enc _ => lifted os started H enc)

/-- The statement: the tied card. -/
theorem proved : Rows.VecOrderCardSaid :=
  Claim7.holds_tied_plain_at .later [] [.data, .data, .data, .data, .sentinel, .sentinel, .pinned] true Rows.vecOrderCard.stood.harness true row (fun _ h => by cases h) (by kernel_rfl) (fun _ h => by cases h) vecOrder_row_tie rfl ⟨rfl, rfl⟩ (by kernel_rfl) rfl
    (fun f fn hf hfn => by
      obtain rfl : f = 5 := Option.some.inj ((show Tryd.prog.funcNamed "demesne/demesnelaw03.VecOrder" = some 5 by kernel_rfl).symm.trans hf) |>.symm
      obtain rfl : fn = Tryd.f5 := (Option.some.inj (Tryd.func5.symm.trans hfn)).symm
      exact ⟨by kernel_rfl, fun j t ht => by
        rw [Tryd.params5] at ht
        have hm : t ∈ [24, 24, 24] := by simpa using Array.mem_of_getElem? ht
        have hall : ([24, 24, 24].all fun u => !Tryd.prog.wantsStandIn u) = true := by kernel_rfl
        exact (show Tryd.prog.wantsStandIn t = false by simpa using List.all_eq_true.1 hall t hm)⟩)
    (by kernel_rfl)
end Go.Proofs.YtaljedficmpjpaaDoor.vecOrder
