/- Proved: demesnelaw03.VecFits answers true for every three amounts of four numbers of 64 bits, and leaves them as they were. No condition beside the row's own; the card ties the listed tables to the pruned copy. -/
import Derived.Test.YtaljedficmpjpaaDoorVArgs
import Derived.Test.YtaljedficmpjpaaDoorCards
import Derived.Test.YtaljedficmpjpaaDoorTie
import Derived.PlainAid
import Derived.Lay
import Derived.SevenTiedAt
import Derived.LaidMore
import Derived.Stop.Joined
namespace Go.Proofs.YtaljedficmpjpaaDoor.vecFits
open Go.RowKit Go.Proofs.YtaljedficmpjpaaDoor.Vec

theorem ord_of_fits {a b : Nat → Int} (h : ∀ i, i < 4 → a i ≤ b i) : ordV a b ≤ 0 := by
  have c : ∀ i, i < 4 → cmp (a i) (b i) ≤ 0 := fun i hi => by have := h i hi; unfold cmp; split <;> (try split) <;> omega
  unfold ordV
  have := c 0 (by omega)
  have := c 1 (by omega)
  have := c 2 (by omega)
  have := c 3 (by omega)
  split <;> (try split) <;> (try split) <;> omega

set_option maxRecDepth 100000 in
set_option maxHeartbeats 4000000 in
theorem ytt (a b c : Nat → Int) (hp : ∀ i, i < 4 → a i ≤ b i) (hq : fitsB b a = true) (hs : same (a 0) (a 1) (a 2) (a 3) (b 0) (b 1) (b 2) (b 3) = true) (hr : fitsB b c = true) (ht : fitsB a c = true) (hz : InRange a) (w : World) :
    Calls Tryd.prog 4 #[.agg #[.int .u64 (a 0), .int .u64 (a 1), .int .u64 (a 2), .int .u64 (a 3)], .agg #[.int .u64 (b 0), .int .u64 (b 1), .int .u64 (b 2), .int .u64 (b 3)], .agg #[.int .u64 (c 0), .int .u64 (c 1), .int .u64 (c 2), .int .u64 (c 3)]] w fun e w' => e = .returned (.bool true) ∧ Below w.heap.size w w' := by
  have heq := equal_vec'
  have hg := guard_vec
  have Faa := fun W => Lib.hid (fitsA a a true (fits_true.2 fun _ _ => Int.le_refl _) W)
  have Fz := fun W => Lib.hid (fitsZ a hz W)
  have Fab := fun W => Lib.hid (fitsA a b true (fits_true.2 hp) W)
  have Fba := fun W => Lib.hid (fitsA b a true hq W)
  have Fbc := fun W => Lib.hid (fitsA b c true hr W)
  have Fac := fun W => Lib.hid (fitsA a c true ht W)
  have hro := ord_of_fits hp
  have Ord := fun W => Lib.hid (orderA a b W)
  obtain ⟨ro, hro'⟩ : ∃ ro, ro = ordV a b := ⟨_, rfl⟩
  rw [← hro'] at hro Ord
  have k0 := hp 0 (by omega)
  have k1 := hp 1 (by omega)
  have k2 := hp 2 (by omega)
  have k3 := hp 3 (by omega)
  clear hro' hp hq hr hz ht
  have d0 : decide (a 0 ≤ b 0) = true := decide_eq_true k0
  have d1 : decide (a 1 ≤ b 1) = true := decide_eq_true k1
  have d2 : decide (a 2 ≤ b 2) = true := decide_eq_true k2
  have d3 : decide (a 3 ≤ b 3) = true := decide_eq_true k3
  obtain ⟨hx0, hy0, hu0, hB0⟩ := three_laid w (.cells #[.int .u64 (a 0), .int .u64 (a 1), .int .u64 (a 2), .int .u64 (a 3)] 24) (.cells #[.int .u64 (b 0), .int .u64 (b 1), .int .u64 (b 2), .int .u64 (b 3)] 24) (.cells #[.int .u64 (c 0), .int .u64 (c 1), .int .u64 (c 2), .int .u64 (c 3)] 24)
  have hx := Lib.hid hx0
  have hy := Lib.hid hy0
  have hu := Lib.hid hu0
  have hB := Lib.hid hB0
  clear hx0 hy0 hu0 hB0
  go_enter Tryd.func4, Tryd.ntmps4
  go_wp2_with fail
  refine (examples_any _).mono ?_
  rintro e w1 ⟨rfl, hb⟩
  have hx' := Lib.hid (keep0 hb hx.out)
  clear hx
  have hx := hx'
  clear hx'
  have hy' := Lib.hid (keep0 hb hy.out)
  clear hy
  have hy := hy'
  clear hy'
  have hu' := Lib.hid (keep0 hb hu.out)
  clear hu
  have hu := hu'
  clear hu'
  have hB' := Lib.hid (grows hB.out hb)
  clear hB hb
  have hB := hB'
  clear hB'
  obtain ⟨lx, x0, x1, x2, x3⟩ := has_cells hx.out
  obtain ⟨ly, y0, y1, y2, y3⟩ := has_cells hy.out
  go_wp2_with fail
  refine ((Fab _).out).mono ?_
  rintro e w2 ⟨rfl, hb⟩
  clear lx x0 x1 x2 x3
  clear ly y0 y1 y2 y3
  have hx' := Lib.hid (keep0 hb hx.out)
  clear hx
  have hx := hx'
  clear hx'
  have hy' := Lib.hid (keep0 hb hy.out)
  clear hy
  have hy := hy'
  clear hy'
  have hu' := Lib.hid (keep0 hb hu.out)
  clear hu
  have hu := hu'
  clear hu'
  have hB' := Lib.hid (grows hB.out hb)
  clear hB hb
  have hB := hB'
  clear hB'
  obtain ⟨lx, x0, x1, x2, x3⟩ := has_cells hx.out
  obtain ⟨ly, y0, y1, y2, y3⟩ := has_cells hy.out
  go_wp2_with fail
  refine ((Fba _).out).mono ?_
  rintro e w3 ⟨rfl, hb⟩
  clear lx x0 x1 x2 x3
  clear ly y0 y1 y2 y3
  have hx' := Lib.hid (keep0 hb hx.out)
  clear hx
  have hx := hx'
  clear hx'
  have hy' := Lib.hid (keep0 hb hy.out)
  clear hy
  have hy := hy'
  clear hy'
  have hu' := Lib.hid (keep0 hb hu.out)
  clear hu
  have hu := hu'
  clear hu'
  have hB' := Lib.hid (grows hB.out hb)
  clear hB hb
  have hB := hB'
  clear hB'
  obtain ⟨lx, x0, x1, x2, x3⟩ := has_cells hx.out
  go_wp2_with fail
  refine ((Faa _).out).mono ?_
  rintro e w4 ⟨rfl, hb⟩
  clear lx x0 x1 x2 x3
  have hx' := Lib.hid (keep0 hb hx.out)
  clear hx
  have hx := hx'
  clear hx'
  have hy' := Lib.hid (keep0 hb hy.out)
  clear hy
  have hy := hy'
  clear hy'
  have hu' := Lib.hid (keep0 hb hu.out)
  clear hu
  have hu := hu'
  clear hu'
  have hB' := Lib.hid (grows hB.out hb)
  clear hB hb
  have hB := hB'
  clear hB'
  obtain ⟨lx, x0, x1, x2, x3⟩ := has_cells hx.out
  obtain ⟨ly, y0, y1, y2, y3⟩ := has_cells hy.out
  go_wp2_with fail
  refine ((Fab _).out).mono ?_
  rintro e w5 ⟨rfl, hb⟩
  clear lx x0 x1 x2 x3
  clear ly y0 y1 y2 y3
  have hx' := Lib.hid (keep0 hb hx.out)
  clear hx
  have hx := hx'
  clear hx'
  have hy' := Lib.hid (keep0 hb hy.out)
  clear hy
  have hy := hy'
  clear hy'
  have hu' := Lib.hid (keep0 hb hu.out)
  clear hu
  have hu := hu'
  clear hu'
  have hB' := Lib.hid (grows hB.out hb)
  clear hB hb
  have hB := hB'
  clear hB'
  obtain ⟨lx, x0, x1, x2, x3⟩ := has_cells hx.out
  obtain ⟨ly, y0, y1, y2, y3⟩ := has_cells hy.out
  obtain ⟨lu, u0, u1, u2, u3⟩ := has_cells hu.out
  go_wp2_with fail
  refine ((Fbc _).out).mono ?_
  rintro e w6 ⟨rfl, hb⟩
  clear lx x0 x1 x2 x3
  clear ly y0 y1 y2 y3
  clear lu u0 u1 u2 u3
  have hx' := Lib.hid (keep0 hb hx.out)
  clear hx
  have hx := hx'
  clear hx'
  have hy' := Lib.hid (keep0 hb hy.out)
  clear hy
  have hy := hy'
  clear hy'
  have hu' := Lib.hid (keep0 hb hu.out)
  clear hu
  have hu := hu'
  clear hu'
  have hB' := Lib.hid (grows hB.out hb)
  clear hB hb
  have hB := hB'
  clear hB'
  obtain ⟨lx, x0, x1, x2, x3⟩ := has_cells hx.out
  obtain ⟨lu, u0, u1, u2, u3⟩ := has_cells hu.out
  go_wp2_with fail
  refine ((Fac _).out).mono ?_
  rintro e w7 ⟨rfl, hb⟩
  clear lx x0 x1 x2 x3
  clear lu u0 u1 u2 u3
  have hx' := Lib.hid (keep0 hb hx.out)
  clear hx
  have hx := hx'
  clear hx'
  have hy' := Lib.hid (keep0 hb hy.out)
  clear hy
  have hy := hy'
  clear hy'
  have hu' := Lib.hid (keep0 hb hu.out)
  clear hu
  have hu := hu'
  clear hu'
  have hB' := Lib.hid (grows hB.out hb)
  clear hB hb
  have hB := hB'
  clear hB'
  obtain ⟨lx, x0, x1, x2, x3⟩ := has_cells hx.out
  go_wp2_with fail
  refine ((Fz _).out).mono ?_
  rintro e w8 ⟨rfl, hb⟩
  clear lx x0 x1 x2 x3
  have hx' := Lib.hid (keep0 hb hx.out)
  clear hx
  have hx := hx'
  clear hx'
  have hy' := Lib.hid (keep0 hb hy.out)
  clear hy
  have hy := hy'
  clear hy'
  have hu' := Lib.hid (keep0 hb hu.out)
  clear hu
  have hu := hu'
  clear hu'
  have hB' := Lib.hid (grows hB.out hb)
  clear hB hb
  have hB := hB'
  clear hB'
  obtain ⟨lx, x0, x1, x2, x3⟩ := has_cells hx.out
  obtain ⟨ly, y0, y1, y2, y3⟩ := has_cells hy.out
  go_wp2_with fail
  refine ((Fab _).out).mono ?_
  rintro e w9 ⟨rfl, hb⟩
  clear lx x0 x1 x2 x3
  clear ly y0 y1 y2 y3
  have hx' := Lib.hid (keep0 hb hx.out)
  clear hx
  have hx := hx'
  clear hx'
  have hy' := Lib.hid (keep0 hb hy.out)
  clear hy
  have hy := hy'
  clear hy'
  have hu' := Lib.hid (keep0 hb hu.out)
  clear hu
  have hu := hu'
  clear hu'
  have hB' := Lib.hid (grows hB.out hb)
  clear hB hb
  have hB := hB'
  clear hB'
  obtain ⟨lx, x0, x1, x2, x3⟩ := has_cells hx.out
  obtain ⟨ly, y0, y1, y2, y3⟩ := has_cells hy.out
  go_wp2_with fail
  refine ((Fab _).out).mono ?_
  rintro e w10 ⟨rfl, hb⟩
  clear lx x0 x1 x2 x3
  clear ly y0 y1 y2 y3
  have hx' := Lib.hid (keep0 hb hx.out)
  clear hx
  have hx := hx'
  clear hx'
  have hy' := Lib.hid (keep0 hb hy.out)
  clear hy
  have hy := hy'
  clear hy'
  have hu' := Lib.hid (keep0 hb hu.out)
  clear hu
  have hu := hu'
  clear hu'
  have hB' := Lib.hid (grows hB.out hb)
  clear hB hb
  have hB := hB'
  clear hB'
  obtain ⟨lx, x0, x1, x2, x3⟩ := has_cells hx.out
  obtain ⟨ly, y0, y1, y2, y3⟩ := has_cells hy.out
  go_wp2_with fail
  refine ((Ord _).out).mono ?_
  rintro e w11 ⟨rfl, hb⟩
  clear lx x0 x1 x2 x3
  clear ly y0 y1 y2 y3
  have hx' := Lib.hid (keep0 hb hx.out)
  clear hx
  have hx := hx'
  clear hx'
  have hy' := Lib.hid (keep0 hb hy.out)
  clear hy
  have hy := hy'
  clear hy'
  have hu' := Lib.hid (keep0 hb hu.out)
  clear hu
  have hu := hu'
  clear hu'
  have hB' := Lib.hid (grows hB.out hb)
  clear hB hb
  have hB := hB'
  clear hB'
  go_wp2
  go_ret
  exact ⟨rfl, hB.out⟩

set_option maxRecDepth 100000 in
set_option maxHeartbeats 4000000 in
theorem ytf (a b c : Nat → Int) (hp : ∀ i, i < 4 → a i ≤ b i) (hq : fitsB b a = true) (hs : same (a 0) (a 1) (a 2) (a 3) (b 0) (b 1) (b 2) (b 3) = true) (hr : fitsB b c = false) (hz : InRange a) (w : World) :
    Calls Tryd.prog 4 #[.agg #[.int .u64 (a 0), .int .u64 (a 1), .int .u64 (a 2), .int .u64 (a 3)], .agg #[.int .u64 (b 0), .int .u64 (b 1), .int .u64 (b 2), .int .u64 (b 3)], .agg #[.int .u64 (c 0), .int .u64 (c 1), .int .u64 (c 2), .int .u64 (c 3)]] w fun e w' => e = .returned (.bool true) ∧ Below w.heap.size w w' := by
  have heq := equal_vec'
  have hg := guard_vec
  have Faa := fun W => Lib.hid (fitsA a a true (fits_true.2 fun _ _ => Int.le_refl _) W)
  have Fz := fun W => Lib.hid (fitsZ a hz W)
  have Fab := fun W => Lib.hid (fitsA a b true (fits_true.2 hp) W)
  have Fba := fun W => Lib.hid (fitsA b a true hq W)
  have Fbc := fun W => Lib.hid (fitsA b c false hr W)
  have hro := ord_of_fits hp
  have Ord := fun W => Lib.hid (orderA a b W)
  obtain ⟨ro, hro'⟩ : ∃ ro, ro = ordV a b := ⟨_, rfl⟩
  rw [← hro'] at hro Ord
  have k0 := hp 0 (by omega)
  have k1 := hp 1 (by omega)
  have k2 := hp 2 (by omega)
  have k3 := hp 3 (by omega)
  clear hro' hp hq hr hz
  have d0 : decide (a 0 ≤ b 0) = true := decide_eq_true k0
  have d1 : decide (a 1 ≤ b 1) = true := decide_eq_true k1
  have d2 : decide (a 2 ≤ b 2) = true := decide_eq_true k2
  have d3 : decide (a 3 ≤ b 3) = true := decide_eq_true k3
  obtain ⟨hx0, hy0, hu0, hB0⟩ := three_laid w (.cells #[.int .u64 (a 0), .int .u64 (a 1), .int .u64 (a 2), .int .u64 (a 3)] 24) (.cells #[.int .u64 (b 0), .int .u64 (b 1), .int .u64 (b 2), .int .u64 (b 3)] 24) (.cells #[.int .u64 (c 0), .int .u64 (c 1), .int .u64 (c 2), .int .u64 (c 3)] 24)
  have hx := Lib.hid hx0
  have hy := Lib.hid hy0
  have hu := Lib.hid hu0
  have hB := Lib.hid hB0
  clear hx0 hy0 hu0 hB0
  go_enter Tryd.func4, Tryd.ntmps4
  go_wp2_with fail
  refine (examples_any _).mono ?_
  rintro e w1 ⟨rfl, hb⟩
  have hx' := Lib.hid (keep0 hb hx.out)
  clear hx
  have hx := hx'
  clear hx'
  have hy' := Lib.hid (keep0 hb hy.out)
  clear hy
  have hy := hy'
  clear hy'
  have hu' := Lib.hid (keep0 hb hu.out)
  clear hu
  have hu := hu'
  clear hu'
  have hB' := Lib.hid (grows hB.out hb)
  clear hB hb
  have hB := hB'
  clear hB'
  obtain ⟨lx, x0, x1, x2, x3⟩ := has_cells hx.out
  obtain ⟨ly, y0, y1, y2, y3⟩ := has_cells hy.out
  go_wp2_with fail
  refine ((Fab _).out).mono ?_
  rintro e w2 ⟨rfl, hb⟩
  clear lx x0 x1 x2 x3
  clear ly y0 y1 y2 y3
  have hx' := Lib.hid (keep0 hb hx.out)
  clear hx
  have hx := hx'
  clear hx'
  have hy' := Lib.hid (keep0 hb hy.out)
  clear hy
  have hy := hy'
  clear hy'
  have hu' := Lib.hid (keep0 hb hu.out)
  clear hu
  have hu := hu'
  clear hu'
  have hB' := Lib.hid (grows hB.out hb)
  clear hB hb
  have hB := hB'
  clear hB'
  obtain ⟨lx, x0, x1, x2, x3⟩ := has_cells hx.out
  obtain ⟨ly, y0, y1, y2, y3⟩ := has_cells hy.out
  go_wp2_with fail
  refine ((Fba _).out).mono ?_
  rintro e w3 ⟨rfl, hb⟩
  clear lx x0 x1 x2 x3
  clear ly y0 y1 y2 y3
  have hx' := Lib.hid (keep0 hb hx.out)
  clear hx
  have hx := hx'
  clear hx'
  have hy' := Lib.hid (keep0 hb hy.out)
  clear hy
  have hy := hy'
  clear hy'
  have hu' := Lib.hid (keep0 hb hu.out)
  clear hu
  have hu := hu'
  clear hu'
  have hB' := Lib.hid (grows hB.out hb)
  clear hB hb
  have hB := hB'
  clear hB'
  obtain ⟨lx, x0, x1, x2, x3⟩ := has_cells hx.out
  go_wp2_with fail
  refine ((Faa _).out).mono ?_
  rintro e w4 ⟨rfl, hb⟩
  clear lx x0 x1 x2 x3
  have hx' := Lib.hid (keep0 hb hx.out)
  clear hx
  have hx := hx'
  clear hx'
  have hy' := Lib.hid (keep0 hb hy.out)
  clear hy
  have hy := hy'
  clear hy'
  have hu' := Lib.hid (keep0 hb hu.out)
  clear hu
  have hu := hu'
  clear hu'
  have hB' := Lib.hid (grows hB.out hb)
  clear hB hb
  have hB := hB'
  clear hB'
  obtain ⟨lx, x0, x1, x2, x3⟩ := has_cells hx.out
  obtain ⟨ly, y0, y1, y2, y3⟩ := has_cells hy.out
  go_wp2_with fail
  refine ((Fab _).out).mono ?_
  rintro e w5 ⟨rfl, hb⟩
  clear lx x0 x1 x2 x3
  clear ly y0 y1 y2 y3
  have hx' := Lib.hid (keep0 hb hx.out)
  clear hx
  have hx := hx'
  clear hx'
  have hy' := Lib.hid (keep0 hb hy.out)
  clear hy
  have hy := hy'
  clear hy'
  have hu' := Lib.hid (keep0 hb hu.out)
  clear hu
  have hu := hu'
  clear hu'
  have hB' := Lib.hid (grows hB.out hb)
  clear hB hb
  have hB := hB'
  clear hB'
  obtain ⟨lx, x0, x1, x2, x3⟩ := has_cells hx.out
  obtain ⟨ly, y0, y1, y2, y3⟩ := has_cells hy.out
  obtain ⟨lu, u0, u1, u2, u3⟩ := has_cells hu.out
  go_wp2_with fail
  refine ((Fbc _).out).mono ?_
  rintro e w6 ⟨rfl, hb⟩
  clear lx x0 x1 x2 x3
  clear ly y0 y1 y2 y3
  clear lu u0 u1 u2 u3
  have hx' := Lib.hid (keep0 hb hx.out)
  clear hx
  have hx := hx'
  clear hx'
  have hy' := Lib.hid (keep0 hb hy.out)
  clear hy
  have hy := hy'
  clear hy'
  have hu' := Lib.hid (keep0 hb hu.out)
  clear hu
  have hu := hu'
  clear hu'
  have hB' := Lib.hid (grows hB.out hb)
  clear hB hb
  have hB := hB'
  clear hB'
  obtain ⟨lx, x0, x1, x2, x3⟩ := has_cells hx.out
  obtain ⟨lu, u0, u1, u2, u3⟩ := has_cells hu.out
  go_wp2_with fail
  refine ((Fz _).out).mono ?_
  rintro e w7 ⟨rfl, hb⟩
  clear lx x0 x1 x2 x3
  clear lu u0 u1 u2 u3
  have hx' := Lib.hid (keep0 hb hx.out)
  clear hx
  have hx := hx'
  clear hx'
  have hy' := Lib.hid (keep0 hb hy.out)
  clear hy
  have hy := hy'
  clear hy'
  have hu' := Lib.hid (keep0 hb hu.out)
  clear hu
  have hu := hu'
  clear hu'
  have hB' := Lib.hid (grows hB.out hb)
  clear hB hb
  have hB := hB'
  clear hB'
  obtain ⟨lx, x0, x1, x2, x3⟩ := has_cells hx.out
  obtain ⟨ly, y0, y1, y2, y3⟩ := has_cells hy.out
  go_wp2_with fail
  refine ((Fab _).out).mono ?_
  rintro e w8 ⟨rfl, hb⟩
  clear lx x0 x1 x2 x3
  clear ly y0 y1 y2 y3
  have hx' := Lib.hid (keep0 hb hx.out)
  clear hx
  have hx := hx'
  clear hx'
  have hy' := Lib.hid (keep0 hb hy.out)
  clear hy
  have hy := hy'
  clear hy'
  have hu' := Lib.hid (keep0 hb hu.out)
  clear hu
  have hu := hu'
  clear hu'
  have hB' := Lib.hid (grows hB.out hb)
  clear hB hb
  have hB := hB'
  clear hB'
  obtain ⟨lx, x0, x1, x2, x3⟩ := has_cells hx.out
  obtain ⟨ly, y0, y1, y2, y3⟩ := has_cells hy.out
  go_wp2_with fail
  refine ((Fab _).out).mono ?_
  rintro e w9 ⟨rfl, hb⟩
  clear lx x0 x1 x2 x3
  clear ly y0 y1 y2 y3
  have hx' := Lib.hid (keep0 hb hx.out)
  clear hx
  have hx := hx'
  clear hx'
  have hy' := Lib.hid (keep0 hb hy.out)
  clear hy
  have hy := hy'
  clear hy'
  have hu' := Lib.hid (keep0 hb hu.out)
  clear hu
  have hu := hu'
  clear hu'
  have hB' := Lib.hid (grows hB.out hb)
  clear hB hb
  have hB := hB'
  clear hB'
  obtain ⟨lx, x0, x1, x2, x3⟩ := has_cells hx.out
  obtain ⟨ly, y0, y1, y2, y3⟩ := has_cells hy.out
  go_wp2_with fail
  refine ((Ord _).out).mono ?_
  rintro e w10 ⟨rfl, hb⟩
  clear lx x0 x1 x2 x3
  clear ly y0 y1 y2 y3
  have hx' := Lib.hid (keep0 hb hx.out)
  clear hx
  have hx := hx'
  clear hx'
  have hy' := Lib.hid (keep0 hb hy.out)
  clear hy
  have hy := hy'
  clear hy'
  have hu' := Lib.hid (keep0 hb hu.out)
  clear hu
  have hu := hu'
  clear hu'
  have hB' := Lib.hid (grows hB.out hb)
  clear hB hb
  have hB := hB'
  clear hB'
  go_wp2
  go_ret
  exact ⟨rfl, hB.out⟩

set_option maxRecDepth 100000 in
set_option maxHeartbeats 4000000 in
theorem yft (a b c : Nat → Int) (hp : ∀ i, i < 4 → a i ≤ b i) (hq : fitsB b a = false) (hs : same (a 0) (a 1) (a 2) (a 3) (b 0) (b 1) (b 2) (b 3) = false) (hr : fitsB b c = true) (ht : fitsB a c = true) (hz : InRange a) (w : World) :
    Calls Tryd.prog 4 #[.agg #[.int .u64 (a 0), .int .u64 (a 1), .int .u64 (a 2), .int .u64 (a 3)], .agg #[.int .u64 (b 0), .int .u64 (b 1), .int .u64 (b 2), .int .u64 (b 3)], .agg #[.int .u64 (c 0), .int .u64 (c 1), .int .u64 (c 2), .int .u64 (c 3)]] w fun e w' => e = .returned (.bool true) ∧ Below w.heap.size w w' := by
  have heq := equal_vec'
  have hg := guard_vec
  have Faa := fun W => Lib.hid (fitsA a a true (fits_true.2 fun _ _ => Int.le_refl _) W)
  have Fz := fun W => Lib.hid (fitsZ a hz W)
  have Fab := fun W => Lib.hid (fitsA a b true (fits_true.2 hp) W)
  have Fba := fun W => Lib.hid (fitsA b a false hq W)
  have Fbc := fun W => Lib.hid (fitsA b c true hr W)
  have Fac := fun W => Lib.hid (fitsA a c true ht W)
  have hro := ord_of_fits hp
  have Ord := fun W => Lib.hid (orderA a b W)
  obtain ⟨ro, hro'⟩ : ∃ ro, ro = ordV a b := ⟨_, rfl⟩
  rw [← hro'] at hro Ord
  have k0 := hp 0 (by omega)
  have k1 := hp 1 (by omega)
  have k2 := hp 2 (by omega)
  have k3 := hp 3 (by omega)
  clear hro' hp hq hr hz ht
  have d0 : decide (a 0 ≤ b 0) = true := decide_eq_true k0
  have d1 : decide (a 1 ≤ b 1) = true := decide_eq_true k1
  have d2 : decide (a 2 ≤ b 2) = true := decide_eq_true k2
  have d3 : decide (a 3 ≤ b 3) = true := decide_eq_true k3
  obtain ⟨hx0, hy0, hu0, hB0⟩ := three_laid w (.cells #[.int .u64 (a 0), .int .u64 (a 1), .int .u64 (a 2), .int .u64 (a 3)] 24) (.cells #[.int .u64 (b 0), .int .u64 (b 1), .int .u64 (b 2), .int .u64 (b 3)] 24) (.cells #[.int .u64 (c 0), .int .u64 (c 1), .int .u64 (c 2), .int .u64 (c 3)] 24)
  have hx := Lib.hid hx0
  have hy := Lib.hid hy0
  have hu := Lib.hid hu0
  have hB := Lib.hid hB0
  clear hx0 hy0 hu0 hB0
  go_enter Tryd.func4, Tryd.ntmps4
  go_wp2_with fail
  refine (examples_any _).mono ?_
  rintro e w1 ⟨rfl, hb⟩
  have hx' := Lib.hid (keep0 hb hx.out)
  clear hx
  have hx := hx'
  clear hx'
  have hy' := Lib.hid (keep0 hb hy.out)
  clear hy
  have hy := hy'
  clear hy'
  have hu' := Lib.hid (keep0 hb hu.out)
  clear hu
  have hu := hu'
  clear hu'
  have hB' := Lib.hid (grows hB.out hb)
  clear hB hb
  have hB := hB'
  clear hB'
  obtain ⟨lx, x0, x1, x2, x3⟩ := has_cells hx.out
  obtain ⟨ly, y0, y1, y2, y3⟩ := has_cells hy.out
  go_wp2_with fail
  refine ((Fab _).out).mono ?_
  rintro e w2 ⟨rfl, hb⟩
  clear lx x0 x1 x2 x3
  clear ly y0 y1 y2 y3
  have hx' := Lib.hid (keep0 hb hx.out)
  clear hx
  have hx := hx'
  clear hx'
  have hy' := Lib.hid (keep0 hb hy.out)
  clear hy
  have hy := hy'
  clear hy'
  have hu' := Lib.hid (keep0 hb hu.out)
  clear hu
  have hu := hu'
  clear hu'
  have hB' := Lib.hid (grows hB.out hb)
  clear hB hb
  have hB := hB'
  clear hB'
  obtain ⟨lx, x0, x1, x2, x3⟩ := has_cells hx.out
  obtain ⟨ly, y0, y1, y2, y3⟩ := has_cells hy.out
  go_wp2_with fail
  refine ((Fba _).out).mono ?_
  rintro e w3 ⟨rfl, hb⟩
  clear lx x0 x1 x2 x3
  clear ly y0 y1 y2 y3
  have hx' := Lib.hid (keep0 hb hx.out)
  clear hx
  have hx := hx'
  clear hx'
  have hy' := Lib.hid (keep0 hb hy.out)
  clear hy
  have hy := hy'
  clear hy'
  have hu' := Lib.hid (keep0 hb hu.out)
  clear hu
  have hu := hu'
  clear hu'
  have hB' := Lib.hid (grows hB.out hb)
  clear hB hb
  have hB := hB'
  clear hB'
  obtain ⟨lx, x0, x1, x2, x3⟩ := has_cells hx.out
  go_wp2_with fail
  refine ((Faa _).out).mono ?_
  rintro e w4 ⟨rfl, hb⟩
  clear lx x0 x1 x2 x3
  have hx' := Lib.hid (keep0 hb hx.out)
  clear hx
  have hx := hx'
  clear hx'
  have hy' := Lib.hid (keep0 hb hy.out)
  clear hy
  have hy := hy'
  clear hy'
  have hu' := Lib.hid (keep0 hb hu.out)
  clear hu
  have hu := hu'
  clear hu'
  have hB' := Lib.hid (grows hB.out hb)
  clear hB hb
  have hB := hB'
  clear hB'
  obtain ⟨lx, x0, x1, x2, x3⟩ := has_cells hx.out
  obtain ⟨ly, y0, y1, y2, y3⟩ := has_cells hy.out
  go_wp2_with fail
  refine ((Fab _).out).mono ?_
  rintro e w5 ⟨rfl, hb⟩
  clear lx x0 x1 x2 x3
  clear ly y0 y1 y2 y3
  have hx' := Lib.hid (keep0 hb hx.out)
  clear hx
  have hx := hx'
  clear hx'
  have hy' := Lib.hid (keep0 hb hy.out)
  clear hy
  have hy := hy'
  clear hy'
  have hu' := Lib.hid (keep0 hb hu.out)
  clear hu
  have hu := hu'
  clear hu'
  have hB' := Lib.hid (grows hB.out hb)
  clear hB hb
  have hB := hB'
  clear hB'
  obtain ⟨lx, x0, x1, x2, x3⟩ := has_cells hx.out
  obtain ⟨ly, y0, y1, y2, y3⟩ := has_cells hy.out
  obtain ⟨lu, u0, u1, u2, u3⟩ := has_cells hu.out
  go_wp2_with fail
  refine ((Fbc _).out).mono ?_
  rintro e w6 ⟨rfl, hb⟩
  clear lx x0 x1 x2 x3
  clear ly y0 y1 y2 y3
  clear lu u0 u1 u2 u3
  have hx' := Lib.hid (keep0 hb hx.out)
  clear hx
  have hx := hx'
  clear hx'
  have hy' := Lib.hid (keep0 hb hy.out)
  clear hy
  have hy := hy'
  clear hy'
  have hu' := Lib.hid (keep0 hb hu.out)
  clear hu
  have hu := hu'
  clear hu'
  have hB' := Lib.hid (grows hB.out hb)
  clear hB hb
  have hB := hB'
  clear hB'
  obtain ⟨lx, x0, x1, x2, x3⟩ := has_cells hx.out
  obtain ⟨lu, u0, u1, u2, u3⟩ := has_cells hu.out
  go_wp2_with fail
  refine ((Fac _).out).mono ?_
  rintro e w7 ⟨rfl, hb⟩
  clear lx x0 x1 x2 x3
  clear lu u0 u1 u2 u3
  have hx' := Lib.hid (keep0 hb hx.out)
  clear hx
  have hx := hx'
  clear hx'
  have hy' := Lib.hid (keep0 hb hy.out)
  clear hy
  have hy := hy'
  clear hy'
  have hu' := Lib.hid (keep0 hb hu.out)
  clear hu
  have hu := hu'
  clear hu'
  have hB' := Lib.hid (grows hB.out hb)
  clear hB hb
  have hB := hB'
  clear hB'
  obtain ⟨lx, x0, x1, x2, x3⟩ := has_cells hx.out
  go_wp2_with fail
  refine ((Fz _).out).mono ?_
  rintro e w8 ⟨rfl, hb⟩
  clear lx x0 x1 x2 x3
  have hx' := Lib.hid (keep0 hb hx.out)
  clear hx
  have hx := hx'
  clear hx'
  have hy' := Lib.hid (keep0 hb hy.out)
  clear hy
  have hy := hy'
  clear hy'
  have hu' := Lib.hid (keep0 hb hu.out)
  clear hu
  have hu := hu'
  clear hu'
  have hB' := Lib.hid (grows hB.out hb)
  clear hB hb
  have hB := hB'
  clear hB'
  obtain ⟨lx, x0, x1, x2, x3⟩ := has_cells hx.out
  obtain ⟨ly, y0, y1, y2, y3⟩ := has_cells hy.out
  go_wp2_with fail
  refine ((Fab _).out).mono ?_
  rintro e w9 ⟨rfl, hb⟩
  clear lx x0 x1 x2 x3
  clear ly y0 y1 y2 y3
  have hx' := Lib.hid (keep0 hb hx.out)
  clear hx
  have hx := hx'
  clear hx'
  have hy' := Lib.hid (keep0 hb hy.out)
  clear hy
  have hy := hy'
  clear hy'
  have hu' := Lib.hid (keep0 hb hu.out)
  clear hu
  have hu := hu'
  clear hu'
  have hB' := Lib.hid (grows hB.out hb)
  clear hB hb
  have hB := hB'
  clear hB'
  obtain ⟨lx, x0, x1, x2, x3⟩ := has_cells hx.out
  obtain ⟨ly, y0, y1, y2, y3⟩ := has_cells hy.out
  go_wp2_with fail
  refine ((Fab _).out).mono ?_
  rintro e w10 ⟨rfl, hb⟩
  clear lx x0 x1 x2 x3
  clear ly y0 y1 y2 y3
  have hx' := Lib.hid (keep0 hb hx.out)
  clear hx
  have hx := hx'
  clear hx'
  have hy' := Lib.hid (keep0 hb hy.out)
  clear hy
  have hy := hy'
  clear hy'
  have hu' := Lib.hid (keep0 hb hu.out)
  clear hu
  have hu := hu'
  clear hu'
  have hB' := Lib.hid (grows hB.out hb)
  clear hB hb
  have hB := hB'
  clear hB'
  obtain ⟨lx, x0, x1, x2, x3⟩ := has_cells hx.out
  obtain ⟨ly, y0, y1, y2, y3⟩ := has_cells hy.out
  go_wp2_with fail
  refine ((Ord _).out).mono ?_
  rintro e w11 ⟨rfl, hb⟩
  clear lx x0 x1 x2 x3
  clear ly y0 y1 y2 y3
  have hx' := Lib.hid (keep0 hb hx.out)
  clear hx
  have hx := hx'
  clear hx'
  have hy' := Lib.hid (keep0 hb hy.out)
  clear hy
  have hy := hy'
  clear hy'
  have hu' := Lib.hid (keep0 hb hu.out)
  clear hu
  have hu := hu'
  clear hu'
  have hB' := Lib.hid (grows hB.out hb)
  clear hB hb
  have hB := hB'
  clear hB'
  go_wp2
  go_ret
  exact ⟨rfl, hB.out⟩

set_option maxRecDepth 100000 in
set_option maxHeartbeats 4000000 in
theorem yff (a b c : Nat → Int) (hp : ∀ i, i < 4 → a i ≤ b i) (hq : fitsB b a = false) (hs : same (a 0) (a 1) (a 2) (a 3) (b 0) (b 1) (b 2) (b 3) = false) (hr : fitsB b c = false) (hz : InRange a) (w : World) :
    Calls Tryd.prog 4 #[.agg #[.int .u64 (a 0), .int .u64 (a 1), .int .u64 (a 2), .int .u64 (a 3)], .agg #[.int .u64 (b 0), .int .u64 (b 1), .int .u64 (b 2), .int .u64 (b 3)], .agg #[.int .u64 (c 0), .int .u64 (c 1), .int .u64 (c 2), .int .u64 (c 3)]] w fun e w' => e = .returned (.bool true) ∧ Below w.heap.size w w' := by
  have heq := equal_vec'
  have hg := guard_vec
  have Faa := fun W => Lib.hid (fitsA a a true (fits_true.2 fun _ _ => Int.le_refl _) W)
  have Fz := fun W => Lib.hid (fitsZ a hz W)
  have Fab := fun W => Lib.hid (fitsA a b true (fits_true.2 hp) W)
  have Fba := fun W => Lib.hid (fitsA b a false hq W)
  have Fbc := fun W => Lib.hid (fitsA b c false hr W)
  have hro := ord_of_fits hp
  have Ord := fun W => Lib.hid (orderA a b W)
  obtain ⟨ro, hro'⟩ : ∃ ro, ro = ordV a b := ⟨_, rfl⟩
  rw [← hro'] at hro Ord
  have k0 := hp 0 (by omega)
  have k1 := hp 1 (by omega)
  have k2 := hp 2 (by omega)
  have k3 := hp 3 (by omega)
  clear hro' hp hq hr hz
  have d0 : decide (a 0 ≤ b 0) = true := decide_eq_true k0
  have d1 : decide (a 1 ≤ b 1) = true := decide_eq_true k1
  have d2 : decide (a 2 ≤ b 2) = true := decide_eq_true k2
  have d3 : decide (a 3 ≤ b 3) = true := decide_eq_true k3
  obtain ⟨hx0, hy0, hu0, hB0⟩ := three_laid w (.cells #[.int .u64 (a 0), .int .u64 (a 1), .int .u64 (a 2), .int .u64 (a 3)] 24) (.cells #[.int .u64 (b 0), .int .u64 (b 1), .int .u64 (b 2), .int .u64 (b 3)] 24) (.cells #[.int .u64 (c 0), .int .u64 (c 1), .int .u64 (c 2), .int .u64 (c 3)] 24)
  have hx := Lib.hid hx0
  have hy := Lib.hid hy0
  have hu := Lib.hid hu0
  have hB := Lib.hid hB0
  clear hx0 hy0 hu0 hB0
  go_enter Tryd.func4, Tryd.ntmps4
  go_wp2_with fail
  refine (examples_any _).mono ?_
  rintro e w1 ⟨rfl, hb⟩
  have hx' := Lib.hid (keep0 hb hx.out)
  clear hx
  have hx := hx'
  clear hx'
  have hy' := Lib.hid (keep0 hb hy.out)
  clear hy
  have hy := hy'
  clear hy'
  have hu' := Lib.hid (keep0 hb hu.out)
  clear hu
  have hu := hu'
  clear hu'
  have hB' := Lib.hid (grows hB.out hb)
  clear hB hb
  have hB := hB'
  clear hB'
  obtain ⟨lx, x0, x1, x2, x3⟩ := has_cells hx.out
  obtain ⟨ly, y0, y1, y2, y3⟩ := has_cells hy.out
  go_wp2_with fail
  refine ((Fab _).out).mono ?_
  rintro e w2 ⟨rfl, hb⟩
  clear lx x0 x1 x2 x3
  clear ly y0 y1 y2 y3
  have hx' := Lib.hid (keep0 hb hx.out)
  clear hx
  have hx := hx'
  clear hx'
  have hy' := Lib.hid (keep0 hb hy.out)
  clear hy
  have hy := hy'
  clear hy'
  have hu' := Lib.hid (keep0 hb hu.out)
  clear hu
  have hu := hu'
  clear hu'
  have hB' := Lib.hid (grows hB.out hb)
  clear hB hb
  have hB := hB'
  clear hB'
  obtain ⟨lx, x0, x1, x2, x3⟩ := has_cells hx.out
  obtain ⟨ly, y0, y1, y2, y3⟩ := has_cells hy.out
  go_wp2_with fail
  refine ((Fba _).out).mono ?_
  rintro e w3 ⟨rfl, hb⟩
  clear lx x0 x1 x2 x3
  clear ly y0 y1 y2 y3
  have hx' := Lib.hid (keep0 hb hx.out)
  clear hx
  have hx := hx'
  clear hx'
  have hy' := Lib.hid (keep0 hb hy.out)
  clear hy
  have hy := hy'
  clear hy'
  have hu' := Lib.hid (keep0 hb hu.out)
  clear hu
  have hu := hu'
  clear hu'
  have hB' := Lib.hid (grows hB.out hb)
  clear hB hb
  have hB := hB'
  clear hB'
  obtain ⟨lx, x0, x1, x2, x3⟩ := has_cells hx.out
  go_wp2_with fail
  refine ((Faa _).out).mono ?_
  rintro e w4 ⟨rfl, hb⟩
  clear lx x0 x1 x2 x3
  have hx' := Lib.hid (keep0 hb hx.out)
  clear hx
  have hx := hx'
  clear hx'
  have hy' := Lib.hid (keep0 hb hy.out)
  clear hy
  have hy := hy'
  clear hy'
  have hu' := Lib.hid (keep0 hb hu.out)
  clear hu
  have hu := hu'
  clear hu'
  have hB' := Lib.hid (grows hB.out hb)
  clear hB hb
  have hB := hB'
  clear hB'
  obtain ⟨lx, x0, x1, x2, x3⟩ := has_cells hx.out
  obtain ⟨ly, y0, y1, y2, y3⟩ := has_cells hy.out
  go_wp2_with fail
  refine ((Fab _).out).mono ?_
  rintro e w5 ⟨rfl, hb⟩
  clear lx x0 x1 x2 x3
  clear ly y0 y1 y2 y3
  have hx' := Lib.hid (keep0 hb hx.out)
  clear hx
  have hx := hx'
  clear hx'
  have hy' := Lib.hid (keep0 hb hy.out)
  clear hy
  have hy := hy'
  clear hy'
  have hu' := Lib.hid (keep0 hb hu.out)
  clear hu
  have hu := hu'
  clear hu'
  have hB' := Lib.hid (grows hB.out hb)
  clear hB hb
  have hB := hB'
  clear hB'
  obtain ⟨lx, x0, x1, x2, x3⟩ := has_cells hx.out
  obtain ⟨ly, y0, y1, y2, y3⟩ := has_cells hy.out
  obtain ⟨lu, u0, u1, u2, u3⟩ := has_cells hu.out
  go_wp2_with fail
  refine ((Fbc _).out).mono ?_
  rintro e w6 ⟨rfl, hb⟩
  clear lx x0 x1 x2 x3
  clear ly y0 y1 y2 y3
  clear lu u0 u1 u2 u3
  have hx' := Lib.hid (keep0 hb hx.out)
  clear hx
  have hx := hx'
  clear hx'
  have hy' := Lib.hid (keep0 hb hy.out)
  clear hy
  have hy := hy'
  clear hy'
  have hu' := Lib.hid (keep0 hb hu.out)
  clear hu
  have hu := hu'
  clear hu'
  have hB' := Lib.hid (grows hB.out hb)
  clear hB hb
  have hB := hB'
  clear hB'
  obtain ⟨lx, x0, x1, x2, x3⟩ := has_cells hx.out
  obtain ⟨lu, u0, u1, u2, u3⟩ := has_cells hu.out
  go_wp2_with fail
  refine ((Fz _).out).mono ?_
  rintro e w7 ⟨rfl, hb⟩
  clear lx x0 x1 x2 x3
  clear lu u0 u1 u2 u3
  have hx' := Lib.hid (keep0 hb hx.out)
  clear hx
  have hx := hx'
  clear hx'
  have hy' := Lib.hid (keep0 hb hy.out)
  clear hy
  have hy := hy'
  clear hy'
  have hu' := Lib.hid (keep0 hb hu.out)
  clear hu
  have hu := hu'
  clear hu'
  have hB' := Lib.hid (grows hB.out hb)
  clear hB hb
  have hB := hB'
  clear hB'
  obtain ⟨lx, x0, x1, x2, x3⟩ := has_cells hx.out
  obtain ⟨ly, y0, y1, y2, y3⟩ := has_cells hy.out
  go_wp2_with fail
  refine ((Fab _).out).mono ?_
  rintro e w8 ⟨rfl, hb⟩
  clear lx x0 x1 x2 x3
  clear ly y0 y1 y2 y3
  have hx' := Lib.hid (keep0 hb hx.out)
  clear hx
  have hx := hx'
  clear hx'
  have hy' := Lib.hid (keep0 hb hy.out)
  clear hy
  have hy := hy'
  clear hy'
  have hu' := Lib.hid (keep0 hb hu.out)
  clear hu
  have hu := hu'
  clear hu'
  have hB' := Lib.hid (grows hB.out hb)
  clear hB hb
  have hB := hB'
  clear hB'
  obtain ⟨lx, x0, x1, x2, x3⟩ := has_cells hx.out
  obtain ⟨ly, y0, y1, y2, y3⟩ := has_cells hy.out
  go_wp2_with fail
  refine ((Fab _).out).mono ?_
  rintro e w9 ⟨rfl, hb⟩
  clear lx x0 x1 x2 x3
  clear ly y0 y1 y2 y3
  have hx' := Lib.hid (keep0 hb hx.out)
  clear hx
  have hx := hx'
  clear hx'
  have hy' := Lib.hid (keep0 hb hy.out)
  clear hy
  have hy := hy'
  clear hy'
  have hu' := Lib.hid (keep0 hb hu.out)
  clear hu
  have hu := hu'
  clear hu'
  have hB' := Lib.hid (grows hB.out hb)
  clear hB hb
  have hB := hB'
  clear hB'
  obtain ⟨lx, x0, x1, x2, x3⟩ := has_cells hx.out
  obtain ⟨ly, y0, y1, y2, y3⟩ := has_cells hy.out
  go_wp2_with fail
  refine ((Ord _).out).mono ?_
  rintro e w10 ⟨rfl, hb⟩
  clear lx x0 x1 x2 x3
  clear ly y0 y1 y2 y3
  have hx' := Lib.hid (keep0 hb hx.out)
  clear hx
  have hx := hx'
  clear hx'
  have hy' := Lib.hid (keep0 hb hy.out)
  clear hy
  have hy := hy'
  clear hy'
  have hu' := Lib.hid (keep0 hb hu.out)
  clear hu
  have hu := hu'
  clear hu'
  have hB' := Lib.hid (grows hB.out hb)
  clear hB hb
  have hB := hB'
  clear hB'
  go_wp2
  go_ret
  exact ⟨rfl, hB.out⟩

set_option maxRecDepth 100000 in
set_option maxHeartbeats 4000000 in
theorem n0 (a b c : Nat → Int) (hp : fitsB a b = false) (hs : same (a 0) (a 1) (a 2) (a 3) (b 0) (b 1) (b 2) (b 3) = false) (hz : InRange a)  (k0 : b 0 < a 0) (w : World) :
    Calls Tryd.prog 4 #[.agg #[.int .u64 (a 0), .int .u64 (a 1), .int .u64 (a 2), .int .u64 (a 3)], .agg #[.int .u64 (b 0), .int .u64 (b 1), .int .u64 (b 2), .int .u64 (b 3)], .agg #[.int .u64 (c 0), .int .u64 (c 1), .int .u64 (c 2), .int .u64 (c 3)]] w fun e w' => e = .returned (.bool true) ∧ Below w.heap.size w w' := by
  have heq := equal_vec'
  have hg := guard_vec
  have Faa := fun W => Lib.hid (fitsA a a true (fits_true.2 fun _ _ => Int.le_refl _) W)
  have Fz := fun W => Lib.hid (fitsZ a hz W)
  have Fab := fun W => Lib.hid (fitsA a b false hp W)
  clear hp hz
  have d0 : decide (a 0 ≤ b 0) = false := decide_eq_false (by omega)
  obtain ⟨hx0, hy0, hu0, hB0⟩ := three_laid w (.cells #[.int .u64 (a 0), .int .u64 (a 1), .int .u64 (a 2), .int .u64 (a 3)] 24) (.cells #[.int .u64 (b 0), .int .u64 (b 1), .int .u64 (b 2), .int .u64 (b 3)] 24) (.cells #[.int .u64 (c 0), .int .u64 (c 1), .int .u64 (c 2), .int .u64 (c 3)] 24)
  have hx := Lib.hid hx0
  have hy := Lib.hid hy0
  have hu := Lib.hid hu0
  have hB := Lib.hid hB0
  clear hx0 hy0 hu0 hB0
  go_enter Tryd.func4, Tryd.ntmps4
  go_wp2_with fail
  refine (examples_any _).mono ?_
  rintro e w1 ⟨rfl, hb⟩
  have hx' := Lib.hid (keep0 hb hx.out)
  clear hx
  have hx := hx'
  clear hx'
  have hy' := Lib.hid (keep0 hb hy.out)
  clear hy
  have hy := hy'
  clear hy'
  have hu' := Lib.hid (keep0 hb hu.out)
  clear hu
  have hu := hu'
  clear hu'
  have hB' := Lib.hid (grows hB.out hb)
  clear hB hb
  have hB := hB'
  clear hB'
  obtain ⟨lx, x0, x1, x2, x3⟩ := has_cells hx.out
  obtain ⟨ly, y0, y1, y2, y3⟩ := has_cells hy.out
  go_wp2_with fail
  refine ((Fab _).out).mono ?_
  rintro e w2 ⟨rfl, hb⟩
  clear lx x0 x1 x2 x3
  clear ly y0 y1 y2 y3
  have hx' := Lib.hid (keep0 hb hx.out)
  clear hx
  have hx := hx'
  clear hx'
  have hy' := Lib.hid (keep0 hb hy.out)
  clear hy
  have hy := hy'
  clear hy'
  have hu' := Lib.hid (keep0 hb hu.out)
  clear hu
  have hu := hu'
  clear hu'
  have hB' := Lib.hid (grows hB.out hb)
  clear hB hb
  have hB := hB'
  clear hB'
  obtain ⟨lx, x0, x1, x2, x3⟩ := has_cells hx.out
  obtain ⟨ly, y0, y1, y2, y3⟩ := has_cells hy.out
  go_wp2_with fail
  refine ((Faa _).out).mono ?_
  rintro e w3 ⟨rfl, hb⟩
  clear lx x0 x1 x2 x3
  clear ly y0 y1 y2 y3
  have hx' := Lib.hid (keep0 hb hx.out)
  clear hx
  have hx := hx'
  clear hx'
  have hy' := Lib.hid (keep0 hb hy.out)
  clear hy
  have hy := hy'
  clear hy'
  have hu' := Lib.hid (keep0 hb hu.out)
  clear hu
  have hu := hu'
  clear hu'
  have hB' := Lib.hid (grows hB.out hb)
  clear hB hb
  have hB := hB'
  clear hB'
  obtain ⟨lx, x0, x1, x2, x3⟩ := has_cells hx.out
  obtain ⟨ly, y0, y1, y2, y3⟩ := has_cells hy.out
  go_wp2_with fail
  refine ((Fab _).out).mono ?_
  rintro e w4 ⟨rfl, hb⟩
  clear lx x0 x1 x2 x3
  clear ly y0 y1 y2 y3
  have hx' := Lib.hid (keep0 hb hx.out)
  clear hx
  have hx := hx'
  clear hx'
  have hy' := Lib.hid (keep0 hb hy.out)
  clear hy
  have hy := hy'
  clear hy'
  have hu' := Lib.hid (keep0 hb hu.out)
  clear hu
  have hu := hu'
  clear hu'
  have hB' := Lib.hid (grows hB.out hb)
  clear hB hb
  have hB := hB'
  clear hB'
  obtain ⟨lx, x0, x1, x2, x3⟩ := has_cells hx.out
  obtain ⟨ly, y0, y1, y2, y3⟩ := has_cells hy.out
  obtain ⟨lu, u0, u1, u2, u3⟩ := has_cells hu.out
  go_wp2_with fail
  refine ((Fz _).out).mono ?_
  rintro e w5 ⟨rfl, hb⟩
  clear lx x0 x1 x2 x3
  clear ly y0 y1 y2 y3
  clear lu u0 u1 u2 u3
  have hx' := Lib.hid (keep0 hb hx.out)
  clear hx
  have hx := hx'
  clear hx'
  have hy' := Lib.hid (keep0 hb hy.out)
  clear hy
  have hy := hy'
  clear hy'
  have hu' := Lib.hid (keep0 hb hu.out)
  clear hu
  have hu := hu'
  clear hu'
  have hB' := Lib.hid (grows hB.out hb)
  clear hB hb
  have hB := hB'
  clear hB'
  obtain ⟨lx, x0, x1, x2, x3⟩ := has_cells hx.out
  obtain ⟨ly, y0, y1, y2, y3⟩ := has_cells hy.out
  go_wp2_with fail
  refine ((Fab _).out).mono ?_
  rintro e w6 ⟨rfl, hb⟩
  clear lx x0 x1 x2 x3
  clear ly y0 y1 y2 y3
  have hx' := Lib.hid (keep0 hb hx.out)
  clear hx
  have hx := hx'
  clear hx'
  have hy' := Lib.hid (keep0 hb hy.out)
  clear hy
  have hy := hy'
  clear hy'
  have hu' := Lib.hid (keep0 hb hu.out)
  clear hu
  have hu := hu'
  clear hu'
  have hB' := Lib.hid (grows hB.out hb)
  clear hB hb
  have hB := hB'
  clear hB'
  obtain ⟨lx, x0, x1, x2, x3⟩ := has_cells hx.out
  obtain ⟨ly, y0, y1, y2, y3⟩ := has_cells hy.out
  go_wp2_with fail
  refine ((Fab _).out).mono ?_
  rintro e w7 ⟨rfl, hb⟩
  clear lx x0 x1 x2 x3
  clear ly y0 y1 y2 y3
  have hx' := Lib.hid (keep0 hb hx.out)
  clear hx
  have hx := hx'
  clear hx'
  have hy' := Lib.hid (keep0 hb hy.out)
  clear hy
  have hy := hy'
  clear hy'
  have hu' := Lib.hid (keep0 hb hu.out)
  clear hu
  have hu := hu'
  clear hu'
  have hB' := Lib.hid (grows hB.out hb)
  clear hB hb
  have hB := hB'
  clear hB'
  obtain ⟨lx, x0, x1, x2, x3⟩ := has_cells hx.out
  obtain ⟨ly, y0, y1, y2, y3⟩ := has_cells hy.out
  go_wp2
  go_ret
  exact ⟨rfl, hB.out⟩

set_option maxRecDepth 100000 in
set_option maxHeartbeats 4000000 in
theorem n1 (a b c : Nat → Int) (hp : fitsB a b = false) (hs : same (a 0) (a 1) (a 2) (a 3) (b 0) (b 1) (b 2) (b 3) = false) (hz : InRange a) (k0 : a 0 ≤ b 0) (k1 : b 1 < a 1) (w : World) :
    Calls Tryd.prog 4 #[.agg #[.int .u64 (a 0), .int .u64 (a 1), .int .u64 (a 2), .int .u64 (a 3)], .agg #[.int .u64 (b 0), .int .u64 (b 1), .int .u64 (b 2), .int .u64 (b 3)], .agg #[.int .u64 (c 0), .int .u64 (c 1), .int .u64 (c 2), .int .u64 (c 3)]] w fun e w' => e = .returned (.bool true) ∧ Below w.heap.size w w' := by
  have heq := equal_vec'
  have hg := guard_vec
  have Faa := fun W => Lib.hid (fitsA a a true (fits_true.2 fun _ _ => Int.le_refl _) W)
  have Fz := fun W => Lib.hid (fitsZ a hz W)
  have Fab := fun W => Lib.hid (fitsA a b false hp W)
  clear hp hz
  have d0 : decide (a 0 ≤ b 0) = true := decide_eq_true k0
  have d1 : decide (a 1 ≤ b 1) = false := decide_eq_false (by omega)
  obtain ⟨hx0, hy0, hu0, hB0⟩ := three_laid w (.cells #[.int .u64 (a 0), .int .u64 (a 1), .int .u64 (a 2), .int .u64 (a 3)] 24) (.cells #[.int .u64 (b 0), .int .u64 (b 1), .int .u64 (b 2), .int .u64 (b 3)] 24) (.cells #[.int .u64 (c 0), .int .u64 (c 1), .int .u64 (c 2), .int .u64 (c 3)] 24)
  have hx := Lib.hid hx0
  have hy := Lib.hid hy0
  have hu := Lib.hid hu0
  have hB := Lib.hid hB0
  clear hx0 hy0 hu0 hB0
  go_enter Tryd.func4, Tryd.ntmps4
  go_wp2_with fail
  refine (examples_any _).mono ?_
  rintro e w1 ⟨rfl, hb⟩
  have hx' := Lib.hid (keep0 hb hx.out)
  clear hx
  have hx := hx'
  clear hx'
  have hy' := Lib.hid (keep0 hb hy.out)
  clear hy
  have hy := hy'
  clear hy'
  have hu' := Lib.hid (keep0 hb hu.out)
  clear hu
  have hu := hu'
  clear hu'
  have hB' := Lib.hid (grows hB.out hb)
  clear hB hb
  have hB := hB'
  clear hB'
  obtain ⟨lx, x0, x1, x2, x3⟩ := has_cells hx.out
  obtain ⟨ly, y0, y1, y2, y3⟩ := has_cells hy.out
  go_wp2_with fail
  refine ((Fab _).out).mono ?_
  rintro e w2 ⟨rfl, hb⟩
  clear lx x0 x1 x2 x3
  clear ly y0 y1 y2 y3
  have hx' := Lib.hid (keep0 hb hx.out)
  clear hx
  have hx := hx'
  clear hx'
  have hy' := Lib.hid (keep0 hb hy.out)
  clear hy
  have hy := hy'
  clear hy'
  have hu' := Lib.hid (keep0 hb hu.out)
  clear hu
  have hu := hu'
  clear hu'
  have hB' := Lib.hid (grows hB.out hb)
  clear hB hb
  have hB := hB'
  clear hB'
  obtain ⟨lx, x0, x1, x2, x3⟩ := has_cells hx.out
  obtain ⟨ly, y0, y1, y2, y3⟩ := has_cells hy.out
  go_wp2_with fail
  refine ((Faa _).out).mono ?_
  rintro e w3 ⟨rfl, hb⟩
  clear lx x0 x1 x2 x3
  clear ly y0 y1 y2 y3
  have hx' := Lib.hid (keep0 hb hx.out)
  clear hx
  have hx := hx'
  clear hx'
  have hy' := Lib.hid (keep0 hb hy.out)
  clear hy
  have hy := hy'
  clear hy'
  have hu' := Lib.hid (keep0 hb hu.out)
  clear hu
  have hu := hu'
  clear hu'
  have hB' := Lib.hid (grows hB.out hb)
  clear hB hb
  have hB := hB'
  clear hB'
  obtain ⟨lx, x0, x1, x2, x3⟩ := has_cells hx.out
  obtain ⟨ly, y0, y1, y2, y3⟩ := has_cells hy.out
  go_wp2_with fail
  refine ((Fab _).out).mono ?_
  rintro e w4 ⟨rfl, hb⟩
  clear lx x0 x1 x2 x3
  clear ly y0 y1 y2 y3
  have hx' := Lib.hid (keep0 hb hx.out)
  clear hx
  have hx := hx'
  clear hx'
  have hy' := Lib.hid (keep0 hb hy.out)
  clear hy
  have hy := hy'
  clear hy'
  have hu' := Lib.hid (keep0 hb hu.out)
  clear hu
  have hu := hu'
  clear hu'
  have hB' := Lib.hid (grows hB.out hb)
  clear hB hb
  have hB := hB'
  clear hB'
  obtain ⟨lx, x0, x1, x2, x3⟩ := has_cells hx.out
  obtain ⟨ly, y0, y1, y2, y3⟩ := has_cells hy.out
  obtain ⟨lu, u0, u1, u2, u3⟩ := has_cells hu.out
  go_wp2_with fail
  refine ((Fz _).out).mono ?_
  rintro e w5 ⟨rfl, hb⟩
  clear lx x0 x1 x2 x3
  clear ly y0 y1 y2 y3
  clear lu u0 u1 u2 u3
  have hx' := Lib.hid (keep0 hb hx.out)
  clear hx
  have hx := hx'
  clear hx'
  have hy' := Lib.hid (keep0 hb hy.out)
  clear hy
  have hy := hy'
  clear hy'
  have hu' := Lib.hid (keep0 hb hu.out)
  clear hu
  have hu := hu'
  clear hu'
  have hB' := Lib.hid (grows hB.out hb)
  clear hB hb
  have hB := hB'
  clear hB'
  obtain ⟨lx, x0, x1, x2, x3⟩ := has_cells hx.out
  obtain ⟨ly, y0, y1, y2, y3⟩ := has_cells hy.out
  go_wp2_with fail
  refine ((Fab _).out).mono ?_
  rintro e w6 ⟨rfl, hb⟩
  clear lx x0 x1 x2 x3
  clear ly y0 y1 y2 y3
  have hx' := Lib.hid (keep0 hb hx.out)
  clear hx
  have hx := hx'
  clear hx'
  have hy' := Lib.hid (keep0 hb hy.out)
  clear hy
  have hy := hy'
  clear hy'
  have hu' := Lib.hid (keep0 hb hu.out)
  clear hu
  have hu := hu'
  clear hu'
  have hB' := Lib.hid (grows hB.out hb)
  clear hB hb
  have hB := hB'
  clear hB'
  obtain ⟨lx, x0, x1, x2, x3⟩ := has_cells hx.out
  obtain ⟨ly, y0, y1, y2, y3⟩ := has_cells hy.out
  go_wp2_with fail
  refine ((Fab _).out).mono ?_
  rintro e w7 ⟨rfl, hb⟩
  clear lx x0 x1 x2 x3
  clear ly y0 y1 y2 y3
  have hx' := Lib.hid (keep0 hb hx.out)
  clear hx
  have hx := hx'
  clear hx'
  have hy' := Lib.hid (keep0 hb hy.out)
  clear hy
  have hy := hy'
  clear hy'
  have hu' := Lib.hid (keep0 hb hu.out)
  clear hu
  have hu := hu'
  clear hu'
  have hB' := Lib.hid (grows hB.out hb)
  clear hB hb
  have hB := hB'
  clear hB'
  obtain ⟨lx, x0, x1, x2, x3⟩ := has_cells hx.out
  obtain ⟨ly, y0, y1, y2, y3⟩ := has_cells hy.out
  go_wp2
  go_ret
  exact ⟨rfl, hB.out⟩

set_option maxRecDepth 100000 in
set_option maxHeartbeats 4000000 in
theorem n2 (a b c : Nat → Int) (hp : fitsB a b = false) (hs : same (a 0) (a 1) (a 2) (a 3) (b 0) (b 1) (b 2) (b 3) = false) (hz : InRange a) (k0 : a 0 ≤ b 0) (k1 : a 1 ≤ b 1) (k2 : b 2 < a 2) (w : World) :
    Calls Tryd.prog 4 #[.agg #[.int .u64 (a 0), .int .u64 (a 1), .int .u64 (a 2), .int .u64 (a 3)], .agg #[.int .u64 (b 0), .int .u64 (b 1), .int .u64 (b 2), .int .u64 (b 3)], .agg #[.int .u64 (c 0), .int .u64 (c 1), .int .u64 (c 2), .int .u64 (c 3)]] w fun e w' => e = .returned (.bool true) ∧ Below w.heap.size w w' := by
  have heq := equal_vec'
  have hg := guard_vec
  have Faa := fun W => Lib.hid (fitsA a a true (fits_true.2 fun _ _ => Int.le_refl _) W)
  have Fz := fun W => Lib.hid (fitsZ a hz W)
  have Fab := fun W => Lib.hid (fitsA a b false hp W)
  clear hp hz
  have d0 : decide (a 0 ≤ b 0) = true := decide_eq_true k0
  have d1 : decide (a 1 ≤ b 1) = true := decide_eq_true k1
  have d2 : decide (a 2 ≤ b 2) = false := decide_eq_false (by omega)
  obtain ⟨hx0, hy0, hu0, hB0⟩ := three_laid w (.cells #[.int .u64 (a 0), .int .u64 (a 1), .int .u64 (a 2), .int .u64 (a 3)] 24) (.cells #[.int .u64 (b 0), .int .u64 (b 1), .int .u64 (b 2), .int .u64 (b 3)] 24) (.cells #[.int .u64 (c 0), .int .u64 (c 1), .int .u64 (c 2), .int .u64 (c 3)] 24)
  have hx := Lib.hid hx0
  have hy := Lib.hid hy0
  have hu := Lib.hid hu0
  have hB := Lib.hid hB0
  clear hx0 hy0 hu0 hB0
  go_enter Tryd.func4, Tryd.ntmps4
  go_wp2_with fail
  refine (examples_any _).mono ?_
  rintro e w1 ⟨rfl, hb⟩
  have hx' := Lib.hid (keep0 hb hx.out)
  clear hx
  have hx := hx'
  clear hx'
  have hy' := Lib.hid (keep0 hb hy.out)
  clear hy
  have hy := hy'
  clear hy'
  have hu' := Lib.hid (keep0 hb hu.out)
  clear hu
  have hu := hu'
  clear hu'
  have hB' := Lib.hid (grows hB.out hb)
  clear hB hb
  have hB := hB'
  clear hB'
  obtain ⟨lx, x0, x1, x2, x3⟩ := has_cells hx.out
  obtain ⟨ly, y0, y1, y2, y3⟩ := has_cells hy.out
  go_wp2_with fail
  refine ((Fab _).out).mono ?_
  rintro e w2 ⟨rfl, hb⟩
  clear lx x0 x1 x2 x3
  clear ly y0 y1 y2 y3
  have hx' := Lib.hid (keep0 hb hx.out)
  clear hx
  have hx := hx'
  clear hx'
  have hy' := Lib.hid (keep0 hb hy.out)
  clear hy
  have hy := hy'
  clear hy'
  have hu' := Lib.hid (keep0 hb hu.out)
  clear hu
  have hu := hu'
  clear hu'
  have hB' := Lib.hid (grows hB.out hb)
  clear hB hb
  have hB := hB'
  clear hB'
  obtain ⟨lx, x0, x1, x2, x3⟩ := has_cells hx.out
  obtain ⟨ly, y0, y1, y2, y3⟩ := has_cells hy.out
  go_wp2_with fail
  refine ((Faa _).out).mono ?_
  rintro e w3 ⟨rfl, hb⟩
  clear lx x0 x1 x2 x3
  clear ly y0 y1 y2 y3
  have hx' := Lib.hid (keep0 hb hx.out)
  clear hx
  have hx := hx'
  clear hx'
  have hy' := Lib.hid (keep0 hb hy.out)
  clear hy
  have hy := hy'
  clear hy'
  have hu' := Lib.hid (keep0 hb hu.out)
  clear hu
  have hu := hu'
  clear hu'
  have hB' := Lib.hid (grows hB.out hb)
  clear hB hb
  have hB := hB'
  clear hB'
  obtain ⟨lx, x0, x1, x2, x3⟩ := has_cells hx.out
  obtain ⟨ly, y0, y1, y2, y3⟩ := has_cells hy.out
  go_wp2_with fail
  refine ((Fab _).out).mono ?_
  rintro e w4 ⟨rfl, hb⟩
  clear lx x0 x1 x2 x3
  clear ly y0 y1 y2 y3
  have hx' := Lib.hid (keep0 hb hx.out)
  clear hx
  have hx := hx'
  clear hx'
  have hy' := Lib.hid (keep0 hb hy.out)
  clear hy
  have hy := hy'
  clear hy'
  have hu' := Lib.hid (keep0 hb hu.out)
  clear hu
  have hu := hu'
  clear hu'
  have hB' := Lib.hid (grows hB.out hb)
  clear hB hb
  have hB := hB'
  clear hB'
  obtain ⟨lx, x0, x1, x2, x3⟩ := has_cells hx.out
  obtain ⟨ly, y0, y1, y2, y3⟩ := has_cells hy.out
  obtain ⟨lu, u0, u1, u2, u3⟩ := has_cells hu.out
  go_wp2_with fail
  refine ((Fz _).out).mono ?_
  rintro e w5 ⟨rfl, hb⟩
  clear lx x0 x1 x2 x3
  clear ly y0 y1 y2 y3
  clear lu u0 u1 u2 u3
  have hx' := Lib.hid (keep0 hb hx.out)
  clear hx
  have hx := hx'
  clear hx'
  have hy' := Lib.hid (keep0 hb hy.out)
  clear hy
  have hy := hy'
  clear hy'
  have hu' := Lib.hid (keep0 hb hu.out)
  clear hu
  have hu := hu'
  clear hu'
  have hB' := Lib.hid (grows hB.out hb)
  clear hB hb
  have hB := hB'
  clear hB'
  obtain ⟨lx, x0, x1, x2, x3⟩ := has_cells hx.out
  obtain ⟨ly, y0, y1, y2, y3⟩ := has_cells hy.out
  go_wp2_with fail
  refine ((Fab _).out).mono ?_
  rintro e w6 ⟨rfl, hb⟩
  clear lx x0 x1 x2 x3
  clear ly y0 y1 y2 y3
  have hx' := Lib.hid (keep0 hb hx.out)
  clear hx
  have hx := hx'
  clear hx'
  have hy' := Lib.hid (keep0 hb hy.out)
  clear hy
  have hy := hy'
  clear hy'
  have hu' := Lib.hid (keep0 hb hu.out)
  clear hu
  have hu := hu'
  clear hu'
  have hB' := Lib.hid (grows hB.out hb)
  clear hB hb
  have hB := hB'
  clear hB'
  obtain ⟨lx, x0, x1, x2, x3⟩ := has_cells hx.out
  obtain ⟨ly, y0, y1, y2, y3⟩ := has_cells hy.out
  go_wp2_with fail
  refine ((Fab _).out).mono ?_
  rintro e w7 ⟨rfl, hb⟩
  clear lx x0 x1 x2 x3
  clear ly y0 y1 y2 y3
  have hx' := Lib.hid (keep0 hb hx.out)
  clear hx
  have hx := hx'
  clear hx'
  have hy' := Lib.hid (keep0 hb hy.out)
  clear hy
  have hy := hy'
  clear hy'
  have hu' := Lib.hid (keep0 hb hu.out)
  clear hu
  have hu := hu'
  clear hu'
  have hB' := Lib.hid (grows hB.out hb)
  clear hB hb
  have hB := hB'
  clear hB'
  obtain ⟨lx, x0, x1, x2, x3⟩ := has_cells hx.out
  obtain ⟨ly, y0, y1, y2, y3⟩ := has_cells hy.out
  go_wp2
  go_ret
  exact ⟨rfl, hB.out⟩

set_option maxRecDepth 100000 in
set_option maxHeartbeats 4000000 in
theorem n3 (a b c : Nat → Int) (hp : fitsB a b = false) (hs : same (a 0) (a 1) (a 2) (a 3) (b 0) (b 1) (b 2) (b 3) = false) (hz : InRange a) (k0 : a 0 ≤ b 0) (k1 : a 1 ≤ b 1) (k2 : a 2 ≤ b 2) (k3 : b 3 < a 3) (w : World) :
    Calls Tryd.prog 4 #[.agg #[.int .u64 (a 0), .int .u64 (a 1), .int .u64 (a 2), .int .u64 (a 3)], .agg #[.int .u64 (b 0), .int .u64 (b 1), .int .u64 (b 2), .int .u64 (b 3)], .agg #[.int .u64 (c 0), .int .u64 (c 1), .int .u64 (c 2), .int .u64 (c 3)]] w fun e w' => e = .returned (.bool true) ∧ Below w.heap.size w w' := by
  have heq := equal_vec'
  have hg := guard_vec
  have Faa := fun W => Lib.hid (fitsA a a true (fits_true.2 fun _ _ => Int.le_refl _) W)
  have Fz := fun W => Lib.hid (fitsZ a hz W)
  have Fab := fun W => Lib.hid (fitsA a b false hp W)
  clear hp hz
  have d0 : decide (a 0 ≤ b 0) = true := decide_eq_true k0
  have d1 : decide (a 1 ≤ b 1) = true := decide_eq_true k1
  have d2 : decide (a 2 ≤ b 2) = true := decide_eq_true k2
  have d3 : decide (a 3 ≤ b 3) = false := decide_eq_false (by omega)
  obtain ⟨hx0, hy0, hu0, hB0⟩ := three_laid w (.cells #[.int .u64 (a 0), .int .u64 (a 1), .int .u64 (a 2), .int .u64 (a 3)] 24) (.cells #[.int .u64 (b 0), .int .u64 (b 1), .int .u64 (b 2), .int .u64 (b 3)] 24) (.cells #[.int .u64 (c 0), .int .u64 (c 1), .int .u64 (c 2), .int .u64 (c 3)] 24)
  have hx := Lib.hid hx0
  have hy := Lib.hid hy0
  have hu := Lib.hid hu0
  have hB := Lib.hid hB0
  clear hx0 hy0 hu0 hB0
  go_enter Tryd.func4, Tryd.ntmps4
  go_wp2_with fail
  refine (examples_any _).mono ?_
  rintro e w1 ⟨rfl, hb⟩
  have hx' := Lib.hid (keep0 hb hx.out)
  clear hx
  have hx := hx'
  clear hx'
  have hy' := Lib.hid (keep0 hb hy.out)
  clear hy
  have hy := hy'
  clear hy'
  have hu' := Lib.hid (keep0 hb hu.out)
  clear hu
  have hu := hu'
  clear hu'
  have hB' := Lib.hid (grows hB.out hb)
  clear hB hb
  have hB := hB'
  clear hB'
  obtain ⟨lx, x0, x1, x2, x3⟩ := has_cells hx.out
  obtain ⟨ly, y0, y1, y2, y3⟩ := has_cells hy.out
  go_wp2_with fail
  refine ((Fab _).out).mono ?_
  rintro e w2 ⟨rfl, hb⟩
  clear lx x0 x1 x2 x3
  clear ly y0 y1 y2 y3
  have hx' := Lib.hid (keep0 hb hx.out)
  clear hx
  have hx := hx'
  clear hx'
  have hy' := Lib.hid (keep0 hb hy.out)
  clear hy
  have hy := hy'
  clear hy'
  have hu' := Lib.hid (keep0 hb hu.out)
  clear hu
  have hu := hu'
  clear hu'
  have hB' := Lib.hid (grows hB.out hb)
  clear hB hb
  have hB := hB'
  clear hB'
  obtain ⟨lx, x0, x1, x2, x3⟩ := has_cells hx.out
  obtain ⟨ly, y0, y1, y2, y3⟩ := has_cells hy.out
  go_wp2_with fail
  refine ((Faa _).out).mono ?_
  rintro e w3 ⟨rfl, hb⟩
  clear lx x0 x1 x2 x3
  clear ly y0 y1 y2 y3
  have hx' := Lib.hid (keep0 hb hx.out)
  clear hx
  have hx := hx'
  clear hx'
  have hy' := Lib.hid (keep0 hb hy.out)
  clear hy
  have hy := hy'
  clear hy'
  have hu' := Lib.hid (keep0 hb hu.out)
  clear hu
  have hu := hu'
  clear hu'
  have hB' := Lib.hid (grows hB.out hb)
  clear hB hb
  have hB := hB'
  clear hB'
  obtain ⟨lx, x0, x1, x2, x3⟩ := has_cells hx.out
  obtain ⟨ly, y0, y1, y2, y3⟩ := has_cells hy.out
  go_wp2_with fail
  refine ((Fab _).out).mono ?_
  rintro e w4 ⟨rfl, hb⟩
  clear lx x0 x1 x2 x3
  clear ly y0 y1 y2 y3
  have hx' := Lib.hid (keep0 hb hx.out)
  clear hx
  have hx := hx'
  clear hx'
  have hy' := Lib.hid (keep0 hb hy.out)
  clear hy
  have hy := hy'
  clear hy'
  have hu' := Lib.hid (keep0 hb hu.out)
  clear hu
  have hu := hu'
  clear hu'
  have hB' := Lib.hid (grows hB.out hb)
  clear hB hb
  have hB := hB'
  clear hB'
  obtain ⟨lx, x0, x1, x2, x3⟩ := has_cells hx.out
  obtain ⟨ly, y0, y1, y2, y3⟩ := has_cells hy.out
  obtain ⟨lu, u0, u1, u2, u3⟩ := has_cells hu.out
  go_wp2_with fail
  refine ((Fz _).out).mono ?_
  rintro e w5 ⟨rfl, hb⟩
  clear lx x0 x1 x2 x3
  clear ly y0 y1 y2 y3
  clear lu u0 u1 u2 u3
  have hx' := Lib.hid (keep0 hb hx.out)
  clear hx
  have hx := hx'
  clear hx'
  have hy' := Lib.hid (keep0 hb hy.out)
  clear hy
  have hy := hy'
  clear hy'
  have hu' := Lib.hid (keep0 hb hu.out)
  clear hu
  have hu := hu'
  clear hu'
  have hB' := Lib.hid (grows hB.out hb)
  clear hB hb
  have hB := hB'
  clear hB'
  obtain ⟨lx, x0, x1, x2, x3⟩ := has_cells hx.out
  obtain ⟨ly, y0, y1, y2, y3⟩ := has_cells hy.out
  go_wp2_with fail
  refine ((Fab _).out).mono ?_
  rintro e w6 ⟨rfl, hb⟩
  clear lx x0 x1 x2 x3
  clear ly y0 y1 y2 y3
  have hx' := Lib.hid (keep0 hb hx.out)
  clear hx
  have hx := hx'
  clear hx'
  have hy' := Lib.hid (keep0 hb hy.out)
  clear hy
  have hy := hy'
  clear hy'
  have hu' := Lib.hid (keep0 hb hu.out)
  clear hu
  have hu := hu'
  clear hu'
  have hB' := Lib.hid (grows hB.out hb)
  clear hB hb
  have hB := hB'
  clear hB'
  obtain ⟨lx, x0, x1, x2, x3⟩ := has_cells hx.out
  obtain ⟨ly, y0, y1, y2, y3⟩ := has_cells hy.out
  go_wp2_with fail
  refine ((Fab _).out).mono ?_
  rintro e w7 ⟨rfl, hb⟩
  clear lx x0 x1 x2 x3
  clear ly y0 y1 y2 y3
  have hx' := Lib.hid (keep0 hb hx.out)
  clear hx
  have hx := hx'
  clear hx'
  have hy' := Lib.hid (keep0 hb hy.out)
  clear hy
  have hy := hy'
  clear hy'
  have hu' := Lib.hid (keep0 hb hu.out)
  clear hu
  have hu := hu'
  clear hu'
  have hB' := Lib.hid (grows hB.out hb)
  clear hB hb
  have hB := hB'
  clear hB'
  obtain ⟨lx, x0, x1, x2, x3⟩ := has_cells hx.out
  obtain ⟨ly, y0, y1, y2, y3⟩ := has_cells hy.out
  go_wp2
  go_ret
  exact ⟨rfl, hB.out⟩

theorem any (a b c : Nat → Int) (ha : InRange a) (w : World) :
    Calls Tryd.prog 4 #[.agg #[.int .u64 (a 0), .int .u64 (a 1), .int .u64 (a 2), .int .u64 (a 3)], .agg #[.int .u64 (b 0), .int .u64 (b 1), .int .u64 (b 2), .int .u64 (b 3)], .agg #[.int .u64 (c 0), .int .u64 (c 1), .int .u64 (c 2), .int .u64 (c 3)]] w fun e w' => e = .returned (.bool true) ∧ Below w.heap.size w w' := by
  by_cases hp : ∀ i, i < 4 → a i ≤ b i
  · have hs : ∀ r, fitsB b a = r → same (a 0) (a 1) (a 2) (a 3) (b 0) (b 1) (b 2) (b 3) = r := by
      intro r hr
      cases r with
      | true => exact sameV_true.2 fun i hi => by have := hp i hi; have := fits_true.1 hr i hi; omega
      | false => exact sameV_false.2 fun h => fits_false.1 hr fun i hi => by rw [h i hi]; exact Int.le_refl _
    have ht : fitsB b c = true → fitsB a c = true := fun h => fits_true.2 fun i hi => by have := hp i hi; have := fits_true.1 h i hi; omega
    cases hq : fitsB b a with
    | true =>
      cases hr : fitsB b c with
      | true => exact ytt a b c hp hq (hs _ hq) hr (ht hr) ha w
      | false => exact ytf a b c hp hq (hs _ hq) hr ha w
    | false =>
      cases hr : fitsB b c with
      | true => exact yft a b c hp hq (hs _ hq) hr (ht hr) ha w
      | false => exact yff a b c hp hq (hs _ hq) hr ha w
  · have hf := fits_false.2 hp
    have hs : same (a 0) (a 1) (a 2) (a 3) (b 0) (b 1) (b 2) (b 3) = false := sameV_false.2 fun h => hp fun i hi => by rw [h i hi]; exact Int.le_refl _
    by_cases k0 : a 0 ≤ b 0
    · by_cases k1 : a 1 ≤ b 1
      · by_cases k2 : a 2 ≤ b 2
        · exact n3 a b c hf hs ha k0 k1 k2 (by
            by_cases k3 : a 3 ≤ b 3
            · exact absurd (all4 k0 k1 k2 k3) hp
            · omega) w
        · exact n2 a b c hf hs ha k0 k1 (by omega) w
      · exact n1 a b c hf hs ha k0 (by omega) w
    · exact n0 a b c hf hs ha (by omega) w

theorem walk (a0 a1 a2 a3 : Int) (ha : InRange (of4 a0 a1 a2 a3)) (b0 b1 b2 b3 : Int) (_ : InRange (of4 b0 b1 b2 b3)) (c0 c1 c2 c3 : Int) (_ : InRange (of4 c0 c1 c2 c3)) (w : World) :
    Calls Tryd.prog 4 #[.agg #[.int .u64 a0, .int .u64 a1, .int .u64 a2, .int .u64 a3], .agg #[.int .u64 b0, .int .u64 b1, .int .u64 b2, .int .u64 b3], .agg #[.int .u64 c0, .int .u64 c1, .int .u64 c2, .int .u64 c3]] w fun e w' => e = .returned (.bool true) ∧ Below w.heap.size w w' :=
  any (of4 a0 a1 a2 a3) (of4 b0 b1 b2 b3) (of4 c0 c1 c2 c3) ha w
open Go.ChangeShapes Go.WideShapes Go.ChangeAt
set_option maxRecDepth 100000 in
theorem lifted (os : Os) (started : os.Started) (H : Type) (enc : TypeId × Value → H) :
    ReturnsInHanded {} Tryd.checked os 4 .any (fun w args => (Rows.vecFitsSpec.pre enc Tryd.prog Tryd.f4 Rows.vecFitsRow.domain false w args ∧ laidMetH Tryd.prog Rows.vecFitsRow.laid w) ∧ sizedMet enc Tryd.prog Tryd.f4 (OpenSpec.ofChange Rows.vecFitsSpec) false w args)
      (Rows.vecFitsSpec.post enc Tryd.prog Tryd.f4 false true false false) := by
  refine returnsInHanded_of_change_and (C := Tryd.checked) (X := fun w _ => laidMetH Tryd.prog Rows.vecFitsRow.laid w) (fun _ _ _ hh h => h.of_heap hh) Ends.own started (by kernel_rfl) Tryd.func4
    (ChangeSpec.witness_shaped (enc := enc) (C := Tryd.checked) (os := os) (X := fun w _ => laidMetH Tryd.prog Rows.vecFitsRow.laid w) false (World.laidAll Tryd.prog os Rows.vecFitsRow.laid) #[.agg #[.int .u64 0, .int .u64 0, .int .u64 0, .int .u64 0], .agg #[.int .u64 0, .int .u64 0, .int .u64 0, .int .u64 0], .agg #[.int .u64 0, .int .u64 0, .int .u64 0, .int .u64 0]] 8 (World.laidAll_os _ _ _)
      (World.shaped_of_ZipB (by kernel_rfl) (by kernel_rfl)) (by kernel_rfl) (by kernel_rfl) (by kernel_rfl)
      (by rw [MakeChecks.laidMetH_plain _ _ _ (by kernel_rfl)]; exact laidMet_laidAll _ (by kernel_rfl) (by kernel_rfl))) ?_
  intro W base args ds gs before hval0 hW _ _ _ _
  have hval : ∀ (j : Nat) t v, Tryd.f4.params[j]? = some t → args[j]? = some v → Value.okWide Tryd.prog W .any base t v := hval0
  have hW' := hW
  obtain ⟨p, q, hA0, hV, rfl, hfz, hnd⟩ := hW
  have hA : DataW.TrodAll enc Tryd.prog W 0 (fun _ => true) true Tryd.f4.params.toList args.toList ds p := hA0
  rw [Tryd.params4] at hA hval
  obtain ⟨v0, vs0, d0, ds0, p0, q0, hargs, rfl, rfl, h0, r0⟩ := trodAll_cons hA
  obtain ⟨v1, vs1, d1, ds1, p1, q1, rfl, rfl, rfl, h1, r1⟩ := trodAll_cons r0
  obtain ⟨v2, vs2, d2, ds2, p2, q2, rfl, rfl, rfl, h2, r2⟩ := trodAll_cons r1
  obtain ⟨rfl, rfl, rfl⟩ := trodAll_nil r2
  obtain rfl : args = #[v0, v1, v2] := by cases args; simp_all
  obtain ⟨rfl, rfl⟩ := trodVars_none hV
  obtain ⟨a0, b0, c0, e0, rfl, w0⟩ := Vec.open_vec (hval 0 24 v0 rfl rfl) h0
  obtain ⟨a1, b1, c1, e1, rfl, w1⟩ := Vec.open_vec (hval 1 24 v1 rfl rfl) h1
  obtain ⟨a2, b2, c2, e2, rfl, w2⟩ := Vec.open_vec (hval 2 24 v2 rfl rfl) h2
  refine (walk a0 b0 c0 e0 w0 a1 b1 c1 e1 w1 a2 b2 c2 e2 w2 W).mono fun e W' ⟨he, hb⟩ => ?_
  subst he
  exact ⟨_, rfl, Ends.law_end Ends.laidOut (by rw [Tryd.params4]; decide +kernel) rfl (by kernel_rfl) Tryd.underlying4 hW' rfl hb⟩

theorem row : Rows.VecFitsSaid :=
  OpenClaim.holds_of_wide 4 Tryd.f4 rfl rfl rfl rfl rfl rfl rfl ⟨rfl, rfl, rfl, rfl, rfl⟩ rfl rfl rfl rfl rfl (by kernel_rfl) Tryd.func4 (by kernel_rfl)
    (of_decide_eq_true (by kernel_rfl)) (by unfold Func.isWrapper; first | (rw [if_pos (by decide +kernel)]; kernel_rfl) | (rw [if_neg (by decide +kernel)]; exact ⟨rfl, rfl⟩))
    (fun os started H enc _ => lifted os started H enc)

/-- The statement: the tied card. -/
theorem proved : Rows.VecFitsCardSaid :=
  Claim7.holds_tied_plain_at .later [] [.data, .data, .data, .data, .sentinel, .sentinel, .pinned] true Rows.vecFitsCard.stood.harness true row (fun _ h => by cases h) (by kernel_rfl) (fun _ h => by cases h) vecFits_row_tie rfl ⟨rfl, rfl⟩ (by kernel_rfl) rfl
    (fun f fn hf hfn => by
      obtain rfl : f = 4 := Option.some.inj ((show Tryd.prog.funcNamed "demesne/demesnelaw03.VecFits" = some 4 by kernel_rfl).symm.trans hf) |>.symm
      obtain rfl : fn = Tryd.f4 := (Option.some.inj (Tryd.func4.symm.trans hfn)).symm
      exact ⟨by kernel_rfl, fun j t ht => by
        rw [Tryd.params4] at ht
        have hm : t ∈ [24, 24, 24] := by simpa using Array.mem_of_getElem? ht
        have hall : ([24, 24, 24].all fun u => !Tryd.prog.wantsStandIn u) = true := by kernel_rfl
        exact (show Tryd.prog.wantsStandIn t = false by simpa using List.all_eq_true.1 hall t hm)⟩)
    (by kernel_rfl)
end Go.Proofs.YtaljedficmpjpaaDoor.vecFits
