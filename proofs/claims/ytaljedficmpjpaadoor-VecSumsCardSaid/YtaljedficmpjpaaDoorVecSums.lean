/- Proved: demesnelaw03.VecSums answers true for every two amounts of four numbers of 64 bits, and leaves them as they were. No condition beside the row's own; the card ties the listed tables to the pruned copy. -/
import Derived.Test.YtaljedficmpjpaaDoorVArgs
import Derived.Test.YtaljedficmpjpaaDoorCards
import Derived.Test.YtaljedficmpjpaaDoorTie
import Derived.PlainAid
import Derived.Lay
import Derived.SevenTiedAt
import Derived.LaidMore
import Derived.Stop.Joined
namespace Go.Proofs.YtaljedficmpjpaaDoor.vecSums
open Go.RowKit Go.Proofs.YtaljedficmpjpaaDoor.Vec

theorem diff_range {a b : Nat → Int} (ha : InRange a) (hb : InRange b) (h : ∀ i, i < 4 → b i ≤ a i) : InRange (fun i => a i - b i) := fun i hi => by have := ha i hi; have := hb i hi; have := h i hi; show 0 ≤ a i - b i ∧ a i - b i ≤ 18446744073709551615; omega
theorem sum_range {a b : Nat → Int} (ha : InRange a) (hb : InRange b) (h : ∀ i, i < 4 → a i + b i ≤ 18446744073709551615) : InRange (fun i => a i + b i) := fun i hi => by have := ha i hi; have := hb i hi; have := h i hi; show 0 ≤ a i + b i ∧ a i + b i ≤ 18446744073709551615; omega

set_option maxRecDepth 100000 in
set_option maxHeartbeats 4000000 in
theorem yy (a b : Nat → Int) (ha : InRange a) (hb : InRange b) (hs : ∀ i, i < 4 → a i + b i ≤ 18446744073709551615) (hd : ∀ i, i < 4 → b i ≤ a i) (w : World) :
    Calls Tryd.prog 3 #[.agg #[.int .u64 (a 0), .int .u64 (a 1), .int .u64 (a 2), .int .u64 (a 3)], .agg #[.int .u64 (b 0), .int .u64 (b 1), .int .u64 (b 2), .int .u64 (b 3)]] w fun e w' => e = .returned (.bool true) ∧ Below w.heap.size w w' := by
  have heq := equal_vec'
  have hg := guard_vec
  have sa : same (a 0) (a 1) (a 2) (a 3) (a 0) (a 1) (a 2) (a 3) = true := same_refl _ _ _ _
  have s0 : same 0 0 0 0 0 0 0 0 = true := rfl
  obtain ⟨c, hc⟩ : ∃ c : Nat → Int, c = fun i => a i + b i := ⟨_, rfl⟩
  have rc : InRange c := by rw [hc]; exact sum_range ha hb hs
  have sc : same (c 0) (c 1) (c 2) (c 3) (c 0) (c 1) (c 2) (c 3) = true := same_refl _ _ _ _
  have C1 := fun W => Lib.hid (addA a b c ha hb rc (fun i _ => by rw [hc]) W)
  have C2 := fun W => Lib.hid (addA b a c hb ha rc (fun i _ => by rw [hc]; exact Int.add_comm _ _) W)
  have C3 := fun W => Lib.hid (subA c b rc hb a (fun i hi => by rw [hc]; have := (ha i hi).1; show b i ≤ a i + b i; omega) (fun i _ => by rw [hc]; show a i = a i + b i - b i; omega) W)
  have F1 := fun W => Lib.hid (fitsA a c true (fits_true.2 fun i hi => by rw [hc]; have := (hb i hi).1; show a i ≤ a i + b i; omega) W)
  obtain ⟨f, hf⟩ : ∃ f : Nat → Int, f = fun i => a i - b i := ⟨_, rfl⟩
  have C4 := fun W => Lib.hid (subA a b ha hb f hd (fun i _ => by rw [hf]) W)
  have C5 := fun W => Lib.hid (addA f b a (by rw [hf]; exact diff_range ha hb hd) hb ha (fun i _ => by rw [hf]; show a i = a i - b i + b i; omega) W)
  have F2 := fun W => Lib.hid (fitsA b a true (fits_true.2 hd) W)
  clear hf
  clear hc rc
  clear ha hb hs hd
  obtain ⟨hx0, hy0, hB0⟩ := two_laid w (.cells #[.int .u64 (a 0), .int .u64 (a 1), .int .u64 (a 2), .int .u64 (a 3)] 24) (.cells #[.int .u64 (b 0), .int .u64 (b 1), .int .u64 (b 2), .int .u64 (b 3)] 24)
  have hx := Lib.hid hx0
  have hy := Lib.hid hy0
  have hB := Lib.hid hB0
  clear hx0 hy0 hB0
  go_enter Tryd.func3, Tryd.ntmps3
  go_wp2_with fail
  refine (examples_any _).mono ?_
  rintro e w1 ⟨rfl, hb⟩
  have hx' := Lib.hid (keep0 hb hx.out)
  clear hx
  have hx := hx'
  clear hx'
  have hy' := Lib.hid (keep0 hb hy.out)
  clear hy
  have hy := hy'
  clear hy'
  have hB' := Lib.hid (grows hB.out hb)
  clear hB hb
  have hB := hB'
  clear hB'
  obtain ⟨lx, x0, x1, x2, x3⟩ := has_cells hx.out
  obtain ⟨ly, y0, y1, y2, y3⟩ := has_cells hy.out
  go_wp2_with fail
  refine ((C1 _).out).mono ?_
  rintro e w2 ⟨rfl, hb⟩
  clear lx x0 x1 x2 x3
  clear ly y0 y1 y2 y3
  have hx' := Lib.hid (keep0 hb hx.out)
  clear hx
  have hx := hx'
  clear hx'
  have hy' := Lib.hid (keep0 hb hy.out)
  clear hy
  have hy := hy'
  clear hy'
  have hB' := Lib.hid (grows hB.out hb)
  clear hB hb
  have hB := hB'
  clear hB'
  obtain ⟨lx, x0, x1, x2, x3⟩ := has_cells hx.out
  obtain ⟨ly, y0, y1, y2, y3⟩ := has_cells hy.out
  go_wp2_with fail
  refine ((C2 _).out).mono ?_
  rintro e w3 ⟨rfl, hb⟩
  clear lx x0 x1 x2 x3
  clear ly y0 y1 y2 y3
  have hx' := Lib.hid (keep1 hb hx.out)
  clear hx
  have hx := hx'
  clear hx'
  have hy' := Lib.hid (keep1 hb hy.out)
  clear hy
  have hy := hy'
  clear hy'
  have hc := Lib.hid (new1 hb)
  have hB' := Lib.hid (chain1 hB.out hb)
  clear hB hb
  have hB := hB'
  clear hB'
  obtain ⟨lx, x0, x1, x2, x3⟩ := has_cells hx.out
  obtain ⟨ly, y0, y1, y2, y3⟩ := has_cells hy.out
  obtain ⟨lc, c0, c1, c2, c3⟩ := has_cells hc.out
  go_wp2_with fail
  refine ((C3 _).out).mono ?_
  rintro e w4 ⟨rfl, hb⟩
  clear lx x0 x1 x2 x3
  clear ly y0 y1 y2 y3
  clear lc c0 c1 c2 c3
  have hx' := Lib.hid (keep1 hb hx.out)
  clear hx
  have hx := hx'
  clear hx'
  have hy' := Lib.hid (keep1 hb hy.out)
  clear hy
  have hy := hy'
  clear hy'
  have hc' := Lib.hid (keep1 hb hc.out)
  clear hc
  have hc := hc'
  clear hc'
  have hd := Lib.hid (new1 hb)
  have hB' := Lib.hid (chain1 hB.out hb)
  clear hB hb
  have hB := hB'
  clear hB'
  obtain ⟨lx, x0, x1, x2, x3⟩ := has_cells hx.out
  obtain ⟨ly, y0, y1, y2, y3⟩ := has_cells hy.out
  go_wp2_with fail
  refine ((C4 _).out).mono ?_
  rintro e w5 ⟨rfl, hb⟩
  clear lx x0 x1 x2 x3
  clear ly y0 y1 y2 y3
  have hx' := Lib.hid (keep1 hb hx.out)
  clear hx
  have hx := hx'
  clear hx'
  have hy' := Lib.hid (keep1 hb hy.out)
  clear hy
  have hy := hy'
  clear hy'
  have hc' := Lib.hid (keep1 hb hc.out)
  clear hc
  have hc := hc'
  clear hc'
  have hd' := Lib.hid (keep1 hb hd.out)
  clear hd
  have hd := hd'
  clear hd'
  have he := Lib.hid (new1 hb)
  have hB' := Lib.hid (chain1 hB.out hb)
  clear hB hb
  have hB := hB'
  clear hB'
  obtain ⟨ly, y0, y1, y2, y3⟩ := has_cells hy.out
  go_wp2_with fail
  refine ((C5 _).out).mono ?_
  rintro e w6 ⟨rfl, hb⟩
  clear ly y0 y1 y2 y3
  have hx' := Lib.hid (keep1 hb hx.out)
  clear hx
  have hx := hx'
  clear hx'
  have hy' := Lib.hid (keep1 hb hy.out)
  clear hy
  have hy := hy'
  clear hy'
  have hc' := Lib.hid (keep1 hb hc.out)
  clear hc
  have hc := hc'
  clear hc'
  have hd' := Lib.hid (keep1 hb hd.out)
  clear hd
  have hd := hd'
  clear hd'
  have he' := Lib.hid (keep1 hb he.out)
  clear he
  have he := he'
  clear he'
  have hf := Lib.hid (new1 hb)
  have hB' := Lib.hid (chain1 hB.out hb)
  clear hB hb
  have hB := hB'
  clear hB'
  obtain ⟨lx, x0, x1, x2, x3⟩ := has_cells hx.out
  obtain ⟨ly, y0, y1, y2, y3⟩ := has_cells hy.out
  obtain ⟨lc, c0, c1, c2, c3⟩ := has_cells hc.out
  obtain ⟨ld, d0, d1, d2, d3⟩ := has_cells hd.out
  obtain ⟨le, e0, e1, e2, e3⟩ := has_cells he.out
  obtain ⟨lf, f0, f1, f2, f3⟩ := has_cells hf.out
  go_wp2_with fail
  refine ((F1 _).out).mono ?_
  rintro e w7 ⟨rfl, hb⟩
  clear lx x0 x1 x2 x3
  clear ly y0 y1 y2 y3
  clear lc c0 c1 c2 c3
  clear ld d0 d1 d2 d3
  clear le e0 e1 e2 e3
  clear lf f0 f1 f2 f3
  have hx' := Lib.hid (keep2 hb hx.out)
  clear hx
  have hx := hx'
  clear hx'
  have hy' := Lib.hid (keep2 hb hy.out)
  clear hy
  have hy := hy'
  clear hy'
  have hc' := Lib.hid (keep2 hb hc.out)
  clear hc
  have hc := hc'
  clear hc'
  have hd' := Lib.hid (keep2 hb hd.out)
  clear hd
  have hd := hd'
  clear hd'
  have he' := Lib.hid (keep2 hb he.out)
  clear he
  have he := he'
  clear he'
  have hf' := Lib.hid (keep2 hb hf.out)
  clear hf
  have hf := hf'
  clear hf'
  have hg := Lib.hid (new2 hb)
  have hz := Lib.hid (new2' hb)
  have hB' := Lib.hid (chain2 hB.out hb)
  clear hB hb
  have hB := hB'
  clear hB'
  obtain ⟨lx, x0, x1, x2, x3⟩ := has_cells hx.out
  obtain ⟨ly, y0, y1, y2, y3⟩ := has_cells hy.out
  obtain ⟨lc, c0, c1, c2, c3⟩ := has_cells hc.out
  obtain ⟨lf, f0, f1, f2, f3⟩ := has_cells hf.out
  obtain ⟨lg, g0, g1, g2, g3⟩ := has_cells hg.out
  obtain ⟨lz, z0, z1, z2, z3⟩ := has_cells hz.out
  go_wp2_with fail
  refine ((F2 _).out).mono ?_
  rintro e w8 ⟨rfl, hb⟩
  clear lx x0 x1 x2 x3
  clear ly y0 y1 y2 y3
  clear lc c0 c1 c2 c3
  clear lf f0 f1 f2 f3
  clear lg g0 g1 g2 g3
  clear lz z0 z1 z2 z3
  have hx' := Lib.hid (keep0 hb hx.out)
  clear hx
  have hx := hx'
  clear hx'
  have hy' := Lib.hid (keep0 hb hy.out)
  clear hy
  have hy := hy'
  clear hy'
  have hc' := Lib.hid (keep0 hb hc.out)
  clear hc
  have hc := hc'
  clear hc'
  have hd' := Lib.hid (keep0 hb hd.out)
  clear hd
  have hd := hd'
  clear hd'
  have he' := Lib.hid (keep0 hb he.out)
  clear he
  have he := he'
  clear he'
  have hf' := Lib.hid (keep0 hb hf.out)
  clear hf
  have hf := hf'
  clear hf'
  have hg' := Lib.hid (keep0 hb hg.out)
  clear hg
  have hg := hg'
  clear hg'
  have hz' := Lib.hid (keep0 hb hz.out)
  clear hz
  have hz := hz'
  clear hz'
  have hB' := Lib.hid (grows hB.out hb)
  clear hB hb
  have hB := hB'
  clear hB'
  obtain ⟨lx, x0, x1, x2, x3⟩ := has_cells hx.out
  obtain ⟨lf, f0, f1, f2, f3⟩ := has_cells hf.out
  obtain ⟨lg, g0, g1, g2, g3⟩ := has_cells hg.out
  obtain ⟨lz, z0, z1, z2, z3⟩ := has_cells hz.out
  go_wp2
  go_ret
  exact ⟨rfl, hB.out⟩

set_option maxRecDepth 100000 in
set_option maxHeartbeats 4000000 in
theorem yn (a b : Nat → Int) (ha : InRange a) (hb : InRange b) (hs : ∀ i, i < 4 → a i + b i ≤ 18446744073709551615) (hd : ¬ ∀ i, i < 4 → b i ≤ a i) (w : World) :
    Calls Tryd.prog 3 #[.agg #[.int .u64 (a 0), .int .u64 (a 1), .int .u64 (a 2), .int .u64 (a 3)], .agg #[.int .u64 (b 0), .int .u64 (b 1), .int .u64 (b 2), .int .u64 (b 3)]] w fun e w' => e = .returned (.bool true) ∧ Below w.heap.size w w' := by
  have heq := equal_vec'
  have hg := guard_vec
  have sa : same (a 0) (a 1) (a 2) (a 3) (a 0) (a 1) (a 2) (a 3) = true := same_refl _ _ _ _
  have s0 : same 0 0 0 0 0 0 0 0 = true := rfl
  obtain ⟨c, hc⟩ : ∃ c : Nat → Int, c = fun i => a i + b i := ⟨_, rfl⟩
  have rc : InRange c := by rw [hc]; exact sum_range ha hb hs
  have sc : same (c 0) (c 1) (c 2) (c 3) (c 0) (c 1) (c 2) (c 3) = true := same_refl _ _ _ _
  have C1 := fun W => Lib.hid (addA a b c ha hb rc (fun i _ => by rw [hc]) W)
  have C2 := fun W => Lib.hid (addA b a c hb ha rc (fun i _ => by rw [hc]; exact Int.add_comm _ _) W)
  have C3 := fun W => Lib.hid (subA c b rc hb a (fun i hi => by rw [hc]; have := (ha i hi).1; show b i ≤ a i + b i; omega) (fun i _ => by rw [hc]; show a i = a i + b i - b i; omega) W)
  have F1 := fun W => Lib.hid (fitsA a c true (fits_true.2 fun i hi => by rw [hc]; have := (hb i hi).1; show a i ≤ a i + b i; omega) W)
  have C4 := fun W => Lib.hid (subN a b ha hb hd W)
  have C5 := fun W => Lib.hid (addZ b hb W)
  have F2 := fun W => Lib.hid (fitsA b a false (fits_false.2 hd) W)
  clear hc rc
  clear ha hb hs hd
  obtain ⟨hx0, hy0, hB0⟩ := two_laid w (.cells #[.int .u64 (a 0), .int .u64 (a 1), .int .u64 (a 2), .int .u64 (a 3)] 24) (.cells #[.int .u64 (b 0), .int .u64 (b 1), .int .u64 (b 2), .int .u64 (b 3)] 24)
  have hx := Lib.hid hx0
  have hy := Lib.hid hy0
  have hB := Lib.hid hB0
  clear hx0 hy0 hB0
  go_enter Tryd.func3, Tryd.ntmps3
  go_wp2_with fail
  refine (examples_any _).mono ?_
  rintro e w1 ⟨rfl, hb⟩
  have hx' := Lib.hid (keep0 hb hx.out)
  clear hx
  have hx := hx'
  clear hx'
  have hy' := Lib.hid (keep0 hb hy.out)
  clear hy
  have hy := hy'
  clear hy'
  have hB' := Lib.hid (grows hB.out hb)
  clear hB hb
  have hB := hB'
  clear hB'
  obtain ⟨lx, x0, x1, x2, x3⟩ := has_cells hx.out
  obtain ⟨ly, y0, y1, y2, y3⟩ := has_cells hy.out
  go_wp2_with fail
  refine ((C1 _).out).mono ?_
  rintro e w2 ⟨rfl, hb⟩
  clear lx x0 x1 x2 x3
  clear ly y0 y1 y2 y3
  have hx' := Lib.hid (keep0 hb hx.out)
  clear hx
  have hx := hx'
  clear hx'
  have hy' := Lib.hid (keep0 hb hy.out)
  clear hy
  have hy := hy'
  clear hy'
  have hB' := Lib.hid (grows hB.out hb)
  clear hB hb
  have hB := hB'
  clear hB'
  obtain ⟨lx, x0, x1, x2, x3⟩ := has_cells hx.out
  obtain ⟨ly, y0, y1, y2, y3⟩ := has_cells hy.out
  go_wp2_with fail
  refine ((C2 _).out).mono ?_
  rintro e w3 ⟨rfl, hb⟩
  clear lx x0 x1 x2 x3
  clear ly y0 y1 y2 y3
  have hx' := Lib.hid (keep1 hb hx.out)
  clear hx
  have hx := hx'
  clear hx'
  have hy' := Lib.hid (keep1 hb hy.out)
  clear hy
  have hy := hy'
  clear hy'
  have hc := Lib.hid (new1 hb)
  have hB' := Lib.hid (chain1 hB.out hb)
  clear hB hb
  have hB := hB'
  clear hB'
  obtain ⟨lx, x0, x1, x2, x3⟩ := has_cells hx.out
  obtain ⟨ly, y0, y1, y2, y3⟩ := has_cells hy.out
  obtain ⟨lc, c0, c1, c2, c3⟩ := has_cells hc.out
  go_wp2_with fail
  refine ((C3 _).out).mono ?_
  rintro e w4 ⟨rfl, hb⟩
  clear lx x0 x1 x2 x3
  clear ly y0 y1 y2 y3
  clear lc c0 c1 c2 c3
  have hx' := Lib.hid (keep1 hb hx.out)
  clear hx
  have hx := hx'
  clear hx'
  have hy' := Lib.hid (keep1 hb hy.out)
  clear hy
  have hy := hy'
  clear hy'
  have hc' := Lib.hid (keep1 hb hc.out)
  clear hc
  have hc := hc'
  clear hc'
  have hd := Lib.hid (new1 hb)
  have hB' := Lib.hid (chain1 hB.out hb)
  clear hB hb
  have hB := hB'
  clear hB'
  obtain ⟨lx, x0, x1, x2, x3⟩ := has_cells hx.out
  obtain ⟨ly, y0, y1, y2, y3⟩ := has_cells hy.out
  go_wp2_with fail
  refine ((C4 _).out).mono ?_
  rintro e w5 ⟨rfl, hb⟩
  clear lx x0 x1 x2 x3
  clear ly y0 y1 y2 y3
  have hx' := Lib.hid (keep1 hb hx.out)
  clear hx
  have hx := hx'
  clear hx'
  have hy' := Lib.hid (keep1 hb hy.out)
  clear hy
  have hy := hy'
  clear hy'
  have hc' := Lib.hid (keep1 hb hc.out)
  clear hc
  have hc := hc'
  clear hc'
  have hd' := Lib.hid (keep1 hb hd.out)
  clear hd
  have hd := hd'
  clear hd'
  have he := Lib.hid (new1 hb)
  have hB' := Lib.hid (chain1 hB.out hb)
  clear hB hb
  have hB := hB'
  clear hB'
  obtain ⟨ly, y0, y1, y2, y3⟩ := has_cells hy.out
  go_wp2_with fail
  refine ((C5 _).out).mono ?_
  rintro e w6 ⟨rfl, hb⟩
  clear ly y0 y1 y2 y3
  have hx' := Lib.hid (keep1 hb hx.out)
  clear hx
  have hx := hx'
  clear hx'
  have hy' := Lib.hid (keep1 hb hy.out)
  clear hy
  have hy := hy'
  clear hy'
  have hc' := Lib.hid (keep1 hb hc.out)
  clear hc
  have hc := hc'
  clear hc'
  have hd' := Lib.hid (keep1 hb hd.out)
  clear hd
  have hd := hd'
  clear hd'
  have he' := Lib.hid (keep1 hb he.out)
  clear he
  have he := he'
  clear he'
  have hf := Lib.hid (new1 hb)
  have hB' := Lib.hid (chain1 hB.out hb)
  clear hB hb
  have hB := hB'
  clear hB'
  obtain ⟨lx, x0, x1, x2, x3⟩ := has_cells hx.out
  obtain ⟨ly, y0, y1, y2, y3⟩ := has_cells hy.out
  obtain ⟨lc, c0, c1, c2, c3⟩ := has_cells hc.out
  obtain ⟨ld, d0, d1, d2, d3⟩ := has_cells hd.out
  obtain ⟨le, e0, e1, e2, e3⟩ := has_cells he.out
  obtain ⟨lf, f0, f1, f2, f3⟩ := has_cells hf.out
  go_wp2_with fail
  refine ((F1 _).out).mono ?_
  rintro e w7 ⟨rfl, hb⟩
  clear lx x0 x1 x2 x3
  clear ly y0 y1 y2 y3
  clear lc c0 c1 c2 c3
  clear ld d0 d1 d2 d3
  clear le e0 e1 e2 e3
  clear lf f0 f1 f2 f3
  have hx' := Lib.hid (keep2 hb hx.out)
  clear hx
  have hx := hx'
  clear hx'
  have hy' := Lib.hid (keep2 hb hy.out)
  clear hy
  have hy := hy'
  clear hy'
  have hc' := Lib.hid (keep2 hb hc.out)
  clear hc
  have hc := hc'
  clear hc'
  have hd' := Lib.hid (keep2 hb hd.out)
  clear hd
  have hd := hd'
  clear hd'
  have he' := Lib.hid (keep2 hb he.out)
  clear he
  have he := he'
  clear he'
  have hf' := Lib.hid (keep2 hb hf.out)
  clear hf
  have hf := hf'
  clear hf'
  have hg := Lib.hid (new2 hb)
  have hz := Lib.hid (new2' hb)
  have hB' := Lib.hid (chain2 hB.out hb)
  clear hB hb
  have hB := hB'
  clear hB'
  obtain ⟨lx, x0, x1, x2, x3⟩ := has_cells hx.out
  obtain ⟨ly, y0, y1, y2, y3⟩ := has_cells hy.out
  obtain ⟨lc, c0, c1, c2, c3⟩ := has_cells hc.out
  obtain ⟨lf, f0, f1, f2, f3⟩ := has_cells hf.out
  obtain ⟨lg, g0, g1, g2, g3⟩ := has_cells hg.out
  obtain ⟨lz, z0, z1, z2, z3⟩ := has_cells hz.out
  go_wp2_with fail
  refine ((F2 _).out).mono ?_
  rintro e w8 ⟨rfl, hb⟩
  clear lx x0 x1 x2 x3
  clear ly y0 y1 y2 y3
  clear lc c0 c1 c2 c3
  clear lf f0 f1 f2 f3
  clear lg g0 g1 g2 g3
  clear lz z0 z1 z2 z3
  have hx' := Lib.hid (keep0 hb hx.out)
  clear hx
  have hx := hx'
  clear hx'
  have hy' := Lib.hid (keep0 hb hy.out)
  clear hy
  have hy := hy'
  clear hy'
  have hc' := Lib.hid (keep0 hb hc.out)
  clear hc
  have hc := hc'
  clear hc'
  have hd' := Lib.hid (keep0 hb hd.out)
  clear hd
  have hd := hd'
  clear hd'
  have he' := Lib.hid (keep0 hb he.out)
  clear he
  have he := he'
  clear he'
  have hf' := Lib.hid (keep0 hb hf.out)
  clear hf
  have hf := hf'
  clear hf'
  have hg' := Lib.hid (keep0 hb hg.out)
  clear hg
  have hg := hg'
  clear hg'
  have hz' := Lib.hid (keep0 hb hz.out)
  clear hz
  have hz := hz'
  clear hz'
  have hB' := Lib.hid (grows hB.out hb)
  clear hB hb
  have hB := hB'
  clear hB'
  obtain ⟨lx, x0, x1, x2, x3⟩ := has_cells hx.out
  obtain ⟨lf, f0, f1, f2, f3⟩ := has_cells hf.out
  obtain ⟨lg, g0, g1, g2, g3⟩ := has_cells hg.out
  obtain ⟨lz, z0, z1, z2, z3⟩ := has_cells hz.out
  go_wp2
  go_ret
  exact ⟨rfl, hB.out⟩

set_option maxRecDepth 100000 in
set_option maxHeartbeats 4000000 in
theorem ny (a b : Nat → Int) (ha : InRange a) (hb : InRange b) (hs : ¬ ∀ i, i < 4 → a i + b i ≤ 18446744073709551615) (hd : ∀ i, i < 4 → b i ≤ a i) (w : World) :
    Calls Tryd.prog 3 #[.agg #[.int .u64 (a 0), .int .u64 (a 1), .int .u64 (a 2), .int .u64 (a 3)], .agg #[.int .u64 (b 0), .int .u64 (b 1), .int .u64 (b 2), .int .u64 (b 3)]] w fun e w' => e = .returned (.bool true) ∧ Below w.heap.size w w' := by
  have heq := equal_vec'
  have hg := guard_vec
  have sa : same (a 0) (a 1) (a 2) (a 3) (a 0) (a 1) (a 2) (a 3) = true := same_refl _ _ _ _
  have s0 : same 0 0 0 0 0 0 0 0 = true := rfl
  have C1 := fun W => Lib.hid (addN a b ha hb hs W)
  have C2 := fun W => Lib.hid (addN b a hb ha (fun h => hs fun i hi => by have := h i hi; omega) W)
  have C3 := fun W => Lib.hid (subZ b hb (fun h => hs fun i hi => by have := h i hi; have := (ha i hi).2; omega) W)
  obtain ⟨f, hf⟩ : ∃ f : Nat → Int, f = fun i => a i - b i := ⟨_, rfl⟩
  have C4 := fun W => Lib.hid (subA a b ha hb f hd (fun i _ => by rw [hf]) W)
  have C5 := fun W => Lib.hid (addA f b a (by rw [hf]; exact diff_range ha hb hd) hb ha (fun i _ => by rw [hf]; show a i = a i - b i + b i; omega) W)
  have F2 := fun W => Lib.hid (fitsA b a true (fits_true.2 hd) W)
  clear hf
  clear ha hb hs hd
  obtain ⟨hx0, hy0, hB0⟩ := two_laid w (.cells #[.int .u64 (a 0), .int .u64 (a 1), .int .u64 (a 2), .int .u64 (a 3)] 24) (.cells #[.int .u64 (b 0), .int .u64 (b 1), .int .u64 (b 2), .int .u64 (b 3)] 24)
  have hx := Lib.hid hx0
  have hy := Lib.hid hy0
  have hB := Lib.hid hB0
  clear hx0 hy0 hB0
  go_enter Tryd.func3, Tryd.ntmps3
  go_wp2_with fail
  refine (examples_any _).mono ?_
  rintro e w1 ⟨rfl, hb⟩
  have hx' := Lib.hid (keep0 hb hx.out)
  clear hx
  have hx := hx'
  clear hx'
  have hy' := Lib.hid (keep0 hb hy.out)
  clear hy
  have hy := hy'
  clear hy'
  have hB' := Lib.hid (grows hB.out hb)
  clear hB hb
  have hB := hB'
  clear hB'
  obtain ⟨lx, x0, x1, x2, x3⟩ := has_cells hx.out
  obtain ⟨ly, y0, y1, y2, y3⟩ := has_cells hy.out
  go_wp2_with fail
  refine ((C1 _).out).mono ?_
  rintro e w2 ⟨rfl, hb⟩
  clear lx x0 x1 x2 x3
  clear ly y0 y1 y2 y3
  have hx' := Lib.hid (keep0 hb hx.out)
  clear hx
  have hx := hx'
  clear hx'
  have hy' := Lib.hid (keep0 hb hy.out)
  clear hy
  have hy := hy'
  clear hy'
  have hB' := Lib.hid (grows hB.out hb)
  clear hB hb
  have hB := hB'
  clear hB'
  obtain ⟨lx, x0, x1, x2, x3⟩ := has_cells hx.out
  obtain ⟨ly, y0, y1, y2, y3⟩ := has_cells hy.out
  go_wp2_with fail
  refine ((C2 _).out).mono ?_
  rintro e w3 ⟨rfl, hb⟩
  clear lx x0 x1 x2 x3
  clear ly y0 y1 y2 y3
  have hx' := Lib.hid (keep1 hb hx.out)
  clear hx
  have hx := hx'
  clear hx'
  have hy' := Lib.hid (keep1 hb hy.out)
  clear hy
  have hy := hy'
  clear hy'
  have hc := Lib.hid (new1 hb)
  have hB' := Lib.hid (chain1 hB.out hb)
  clear hB hb
  have hB := hB'
  clear hB'
  obtain ⟨lx, x0, x1, x2, x3⟩ := has_cells hx.out
  obtain ⟨ly, y0, y1, y2, y3⟩ := has_cells hy.out
  obtain ⟨lc, c0, c1, c2, c3⟩ := has_cells hc.out
  go_wp2_with fail
  refine ((C3 _).out).mono ?_
  rintro e w4 ⟨rfl, hb⟩
  clear lx x0 x1 x2 x3
  clear ly y0 y1 y2 y3
  clear lc c0 c1 c2 c3
  have hx' := Lib.hid (keep1 hb hx.out)
  clear hx
  have hx := hx'
  clear hx'
  have hy' := Lib.hid (keep1 hb hy.out)
  clear hy
  have hy := hy'
  clear hy'
  have hc' := Lib.hid (keep1 hb hc.out)
  clear hc
  have hc := hc'
  clear hc'
  have hd := Lib.hid (new1 hb)
  have hB' := Lib.hid (chain1 hB.out hb)
  clear hB hb
  have hB := hB'
  clear hB'
  obtain ⟨lx, x0, x1, x2, x3⟩ := has_cells hx.out
  obtain ⟨ly, y0, y1, y2, y3⟩ := has_cells hy.out
  go_wp2_with fail
  refine ((C4 _).out).mono ?_
  rintro e w5 ⟨rfl, hb⟩
  clear lx x0 x1 x2 x3
  clear ly y0 y1 y2 y3
  have hx' := Lib.hid (keep1 hb hx.out)
  clear hx
  have hx := hx'
  clear hx'
  have hy' := Lib.hid (keep1 hb hy.out)
  clear hy
  have hy := hy'
  clear hy'
  have hc' := Lib.hid (keep1 hb hc.out)
  clear hc
  have hc := hc'
  clear hc'
  have hd' := Lib.hid (keep1 hb hd.out)
  clear hd
  have hd := hd'
  clear hd'
  have he := Lib.hid (new1 hb)
  have hB' := Lib.hid (chain1 hB.out hb)
  clear hB hb
  have hB := hB'
  clear hB'
  obtain ⟨ly, y0, y1, y2, y3⟩ := has_cells hy.out
  go_wp2_with fail
  refine ((C5 _).out).mono ?_
  rintro e w6 ⟨rfl, hb⟩
  clear ly y0 y1 y2 y3
  have hx' := Lib.hid (keep1 hb hx.out)
  clear hx
  have hx := hx'
  clear hx'
  have hy' := Lib.hid (keep1 hb hy.out)
  clear hy
  have hy := hy'
  clear hy'
  have hc' := Lib.hid (keep1 hb hc.out)
  clear hc
  have hc := hc'
  clear hc'
  have hd' := Lib.hid (keep1 hb hd.out)
  clear hd
  have hd := hd'
  clear hd'
  have he' := Lib.hid (keep1 hb he.out)
  clear he
  have he := he'
  clear he'
  have hf := Lib.hid (new1 hb)
  have hB' := Lib.hid (chain1 hB.out hb)
  clear hB hb
  have hB := hB'
  clear hB'
  obtain ⟨lx, x0, x1, x2, x3⟩ := has_cells hx.out
  obtain ⟨ly, y0, y1, y2, y3⟩ := has_cells hy.out
  obtain ⟨lc, c0, c1, c2, c3⟩ := has_cells hc.out
  obtain ⟨ld, d0, d1, d2, d3⟩ := has_cells hd.out
  obtain ⟨le, e0, e1, e2, e3⟩ := has_cells he.out
  obtain ⟨lf, f0, f1, f2, f3⟩ := has_cells hf.out
  go_wp2_with fail
  refine ((F2 _).out).mono ?_
  rintro e w7 ⟨rfl, hb⟩
  clear lx x0 x1 x2 x3
  clear ly y0 y1 y2 y3
  clear lc c0 c1 c2 c3
  clear ld d0 d1 d2 d3
  clear le e0 e1 e2 e3
  clear lf f0 f1 f2 f3
  have hx' := Lib.hid (keep2 hb hx.out)
  clear hx
  have hx := hx'
  clear hx'
  have hy' := Lib.hid (keep2 hb hy.out)
  clear hy
  have hy := hy'
  clear hy'
  have hc' := Lib.hid (keep2 hb hc.out)
  clear hc
  have hc := hc'
  clear hc'
  have hd' := Lib.hid (keep2 hb hd.out)
  clear hd
  have hd := hd'
  clear hd'
  have he' := Lib.hid (keep2 hb he.out)
  clear he
  have he := he'
  clear he'
  have hf' := Lib.hid (keep2 hb hf.out)
  clear hf
  have hf := hf'
  clear hf'
  have hg := Lib.hid (new2 hb)
  have hz := Lib.hid (new2' hb)
  have hB' := Lib.hid (chain2 hB.out hb)
  clear hB hb
  have hB := hB'
  clear hB'
  obtain ⟨lx, x0, x1, x2, x3⟩ := has_cells hx.out
  obtain ⟨lf, f0, f1, f2, f3⟩ := has_cells hf.out
  obtain ⟨lg, g0, g1, g2, g3⟩ := has_cells hg.out
  obtain ⟨lz, z0, z1, z2, z3⟩ := has_cells hz.out
  go_wp2
  go_ret
  exact ⟨rfl, hB.out⟩

set_option maxRecDepth 100000 in
set_option maxHeartbeats 4000000 in
theorem nn (a b : Nat → Int) (ha : InRange a) (hb : InRange b) (hs : ¬ ∀ i, i < 4 → a i + b i ≤ 18446744073709551615) (hd : ¬ ∀ i, i < 4 → b i ≤ a i) (w : World) :
    Calls Tryd.prog 3 #[.agg #[.int .u64 (a 0), .int .u64 (a 1), .int .u64 (a 2), .int .u64 (a 3)], .agg #[.int .u64 (b 0), .int .u64 (b 1), .int .u64 (b 2), .int .u64 (b 3)]] w fun e w' => e = .returned (.bool true) ∧ Below w.heap.size w w' := by
  have heq := equal_vec'
  have hg := guard_vec
  have sa : same (a 0) (a 1) (a 2) (a 3) (a 0) (a 1) (a 2) (a 3) = true := same_refl _ _ _ _
  have s0 : same 0 0 0 0 0 0 0 0 = true := rfl
  have C1 := fun W => Lib.hid (addN a b ha hb hs W)
  have C2 := fun W => Lib.hid (addN b a hb ha (fun h => hs fun i hi => by have := h i hi; omega) W)
  have C3 := fun W => Lib.hid (subZ b hb (fun h => hs fun i hi => by have := h i hi; have := (ha i hi).2; omega) W)
  have C4 := fun W => Lib.hid (subN a b ha hb hd W)
  have C5 := fun W => Lib.hid (addZ b hb W)
  have F2 := fun W => Lib.hid (fitsA b a false (fits_false.2 hd) W)
  clear ha hb hs hd
  obtain ⟨hx0, hy0, hB0⟩ := two_laid w (.cells #[.int .u64 (a 0), .int .u64 (a 1), .int .u64 (a 2), .int .u64 (a 3)] 24) (.cells #[.int .u64 (b 0), .int .u64 (b 1), .int .u64 (b 2), .int .u64 (b 3)] 24)
  have hx := Lib.hid hx0
  have hy := Lib.hid hy0
  have hB := Lib.hid hB0
  clear hx0 hy0 hB0
  go_enter Tryd.func3, Tryd.ntmps3
  go_wp2_with fail
  refine (examples_any _).mono ?_
  rintro e w1 ⟨rfl, hb⟩
  have hx' := Lib.hid (keep0 hb hx.out)
  clear hx
  have hx := hx'
  clear hx'
  have hy' := Lib.hid (keep0 hb hy.out)
  clear hy
  have hy := hy'
  clear hy'
  have hB' := Lib.hid (grows hB.out hb)
  clear hB hb
  have hB := hB'
  clear hB'
  obtain ⟨lx, x0, x1, x2, x3⟩ := has_cells hx.out
  obtain ⟨ly, y0, y1, y2, y3⟩ := has_cells hy.out
  go_wp2_with fail
  refine ((C1 _).out).mono ?_
  rintro e w2 ⟨rfl, hb⟩
  clear lx x0 x1 x2 x3
  clear ly y0 y1 y2 y3
  have hx' := Lib.hid (keep0 hb hx.out)
  clear hx
  have hx := hx'
  clear hx'
  have hy' := Lib.hid (keep0 hb hy.out)
  clear hy
  have hy := hy'
  clear hy'
  have hB' := Lib.hid (grows hB.out hb)
  clear hB hb
  have hB := hB'
  clear hB'
  obtain ⟨lx, x0, x1, x2, x3⟩ := has_cells hx.out
  obtain ⟨ly, y0, y1, y2, y3⟩ := has_cells hy.out
  go_wp2_with fail
  refine ((C2 _).out).mono ?_
  rintro e w3 ⟨rfl, hb⟩
  clear lx x0 x1 x2 x3
  clear ly y0 y1 y2 y3
  have hx' := Lib.hid (keep1 hb hx.out)
  clear hx
  have hx := hx'
  clear hx'
  have hy' := Lib.hid (keep1 hb hy.out)
  clear hy
  have hy := hy'
  clear hy'
  have hc := Lib.hid (new1 hb)
  have hB' := Lib.hid (chain1 hB.out hb)
  clear hB hb
  have hB := hB'
  clear hB'
  obtain ⟨lx, x0, x1, x2, x3⟩ := has_cells hx.out
  obtain ⟨ly, y0, y1, y2, y3⟩ := has_cells hy.out
  obtain ⟨lc, c0, c1, c2, c3⟩ := has_cells hc.out
  go_wp2_with fail
  refine ((C3 _).out).mono ?_
  rintro e w4 ⟨rfl, hb⟩
  clear lx x0 x1 x2 x3
  clear ly y0 y1 y2 y3
  clear lc c0 c1 c2 c3
  have hx' := Lib.hid (keep1 hb hx.out)
  clear hx
  have hx := hx'
  clear hx'
  have hy' := Lib.hid (keep1 hb hy.out)
  clear hy
  have hy := hy'
  clear hy'
  have hc' := Lib.hid (keep1 hb hc.out)
  clear hc
  have hc := hc'
  clear hc'
  have hd := Lib.hid (new1 hb)
  have hB' := Lib.hid (chain1 hB.out hb)
  clear hB hb
  have hB := hB'
  clear hB'
  obtain ⟨lx, x0, x1, x2, x3⟩ := has_cells hx.out
  obtain ⟨ly, y0, y1, y2, y3⟩ := has_cells hy.out
  go_wp2_with fail
  refine ((C4 _).out).mono ?_
  rintro e w5 ⟨rfl, hb⟩
  clear lx x0 x1 x2 x3
  clear ly y0 y1 y2 y3
  have hx' := Lib.hid (keep1 hb hx.out)
  clear hx
  have hx := hx'
  clear hx'
  have hy' := Lib.hid (keep1 hb hy.out)
  clear hy
  have hy := hy'
  clear hy'
  have hc' := Lib.hid (keep1 hb hc.out)
  clear hc
  have hc := hc'
  clear hc'
  have hd' := Lib.hid (keep1 hb hd.out)
  clear hd
  have hd := hd'
  clear hd'
  have he := Lib.hid (new1 hb)
  have hB' := Lib.hid (chain1 hB.out hb)
  clear hB hb
  have hB := hB'
  clear hB'
  obtain ⟨ly, y0, y1, y2, y3⟩ := has_cells hy.out
  go_wp2_with fail
  refine ((C5 _).out).mono ?_
  rintro e w6 ⟨rfl, hb⟩
  clear ly y0 y1 y2 y3
  have hx' := Lib.hid (keep1 hb hx.out)
  clear hx
  have hx := hx'
  clear hx'
  have hy' := Lib.hid (keep1 hb hy.out)
  clear hy
  have hy := hy'
  clear hy'
  have hc' := Lib.hid (keep1 hb hc.out)
  clear hc
  have hc := hc'
  clear hc'
  have hd' := Lib.hid (keep1 hb hd.out)
  clear hd
  have hd := hd'
  clear hd'
  have he' := Lib.hid (keep1 hb he.out)
  clear he
  have he := he'
  clear he'
  have hf := Lib.hid (new1 hb)
  have hB' := Lib.hid (chain1 hB.out hb)
  clear hB hb
  have hB := hB'
  clear hB'
  obtain ⟨lx, x0, x1, x2, x3⟩ := has_cells hx.out
  obtain ⟨ly, y0, y1, y2, y3⟩ := has_cells hy.out
  obtain ⟨lc, c0, c1, c2, c3⟩ := has_cells hc.out
  obtain ⟨ld, d0, d1, d2, d3⟩ := has_cells hd.out
  obtain ⟨le, e0, e1, e2, e3⟩ := has_cells he.out
  obtain ⟨lf, f0, f1, f2, f3⟩ := has_cells hf.out
  go_wp2_with fail
  refine ((F2 _).out).mono ?_
  rintro e w7 ⟨rfl, hb⟩
  clear lx x0 x1 x2 x3
  clear ly y0 y1 y2 y3
  clear lc c0 c1 c2 c3
  clear ld d0 d1 d2 d3
  clear le e0 e1 e2 e3
  clear lf f0 f1 f2 f3
  have hx' := Lib.hid (keep2 hb hx.out)
  clear hx
  have hx := hx'
  clear hx'
  have hy' := Lib.hid (keep2 hb hy.out)
  clear hy
  have hy := hy'
  clear hy'
  have hc' := Lib.hid (keep2 hb hc.out)
  clear hc
  have hc := hc'
  clear hc'
  have hd' := Lib.hid (keep2 hb hd.out)
  clear hd
  have hd := hd'
  clear hd'
  have he' := Lib.hid (keep2 hb he.out)
  clear he
  have he := he'
  clear he'
  have hf' := Lib.hid (keep2 hb hf.out)
  clear hf
  have hf := hf'
  clear hf'
  have hg := Lib.hid (new2 hb)
  have hz := Lib.hid (new2' hb)
  have hB' := Lib.hid (chain2 hB.out hb)
  clear hB hb
  have hB := hB'
  clear hB'
  obtain ⟨lx, x0, x1, x2, x3⟩ := has_cells hx.out
  obtain ⟨lf, f0, f1, f2, f3⟩ := has_cells hf.out
  obtain ⟨lg, g0, g1, g2, g3⟩ := has_cells hg.out
  obtain ⟨lz, z0, z1, z2, z3⟩ := has_cells hz.out
  go_wp2
  go_ret
  exact ⟨rfl, hB.out⟩

theorem walk (a0 a1 a2 a3 : Int) (ha : InRange (of4 a0 a1 a2 a3)) (b0 b1 b2 b3 : Int) (hb : InRange (of4 b0 b1 b2 b3)) (w : World) :
    Calls Tryd.prog 3 #[.agg #[.int .u64 a0, .int .u64 a1, .int .u64 a2, .int .u64 a3], .agg #[.int .u64 b0, .int .u64 b1, .int .u64 b2, .int .u64 b3]] w fun e w' => e = .returned (.bool true) ∧ Below w.heap.size w w' := by
  by_cases hs : ∀ i, i < 4 → of4 a0 a1 a2 a3 i + of4 b0 b1 b2 b3 i ≤ 18446744073709551615
  · by_cases hd : ∀ i, i < 4 → of4 b0 b1 b2 b3 i ≤ of4 a0 a1 a2 a3 i
    · exact yy _ _ ha hb hs hd w
    · exact yn _ _ ha hb hs hd w
  · by_cases hd : ∀ i, i < 4 → of4 b0 b1 b2 b3 i ≤ of4 a0 a1 a2 a3 i
    · exact ny _ _ ha hb hs hd w
    · exact nn _ _ ha hb hs hd w
open Go.ChangeShapes Go.WideShapes Go.ChangeAt
set_option maxRecDepth 100000 in
theorem lifted (os : Os) (started : os.Started) (H : Type) (enc : TypeId × Value → H) :
    ReturnsInHanded {} Tryd.checked os 3 .any (fun w args => (Rows.vecSumsSpec.pre enc Tryd.prog Tryd.f3 Rows.vecSumsRow.domain false w args ∧ laidMetH Tryd.prog Rows.vecSumsRow.laid w) ∧ sizedMet enc Tryd.prog Tryd.f3 (OpenSpec.ofChange Rows.vecSumsSpec) false w args)
      (Rows.vecSumsSpec.post enc Tryd.prog Tryd.f3 false true false false) := by
  refine returnsInHanded_of_change_and (C := Tryd.checked) (X := fun w _ => laidMetH Tryd.prog Rows.vecSumsRow.laid w) (fun _ _ _ hh h => h.of_heap hh) Ends.own started (by kernel_rfl) Tryd.func3
    (ChangeSpec.witness_shaped (enc := enc) (C := Tryd.checked) (os := os) (X := fun w _ => laidMetH Tryd.prog Rows.vecSumsRow.laid w) false (World.laidAll Tryd.prog os Rows.vecSumsRow.laid) #[.agg #[.int .u64 0, .int .u64 0, .int .u64 0, .int .u64 0], .agg #[.int .u64 0, .int .u64 0, .int .u64 0, .int .u64 0]] 8 (World.laidAll_os _ _ _)
      (World.shaped_of_ZipB (by kernel_rfl) (by kernel_rfl)) (by kernel_rfl) (by kernel_rfl) (by kernel_rfl)
      (by rw [MakeChecks.laidMetH_plain _ _ _ (by kernel_rfl)]; exact laidMet_laidAll _ (by kernel_rfl) (by kernel_rfl))) ?_
  intro W base args ds gs before hval0 hW _ _ _ _
  have hval : ∀ (j : Nat) t v, Tryd.f3.params[j]? = some t → args[j]? = some v → Value.okWide Tryd.prog W .any base t v := hval0
  have hW' := hW
  obtain ⟨p, q, hA0, hV, rfl, hfz, hnd⟩ := hW
  have hA : DataW.TrodAll enc Tryd.prog W 0 (fun _ => true) true Tryd.f3.params.toList args.toList ds p := hA0
  rw [Tryd.params3] at hA hval
  obtain ⟨v0, vs0, d0, ds0, p0, q0, hargs, rfl, rfl, h0, r0⟩ := trodAll_cons hA
  obtain ⟨v1, vs1, d1, ds1, p1, q1, rfl, rfl, rfl, h1, r1⟩ := trodAll_cons r0
  obtain ⟨rfl, rfl, rfl⟩ := trodAll_nil r1
  obtain rfl : args = #[v0, v1] := by cases args; simp_all
  obtain ⟨rfl, rfl⟩ := trodVars_none hV
  obtain ⟨a0, b0, c0, e0, rfl, w0⟩ := Vec.open_vec (hval 0 24 v0 rfl rfl) h0
  obtain ⟨a1, b1, c1, e1, rfl, w1⟩ := Vec.open_vec (hval 1 24 v1 rfl rfl) h1
  refine (walk a0 b0 c0 e0 w0 a1 b1 c1 e1 w1 W).mono fun e W' ⟨he, hb⟩ => ?_
  subst he
  exact ⟨_, rfl, Ends.law_end Ends.laidOut (by rw [Tryd.params3]; decide +kernel) rfl (by kernel_rfl) Tryd.underlying4 hW' rfl hb⟩

theorem row : Rows.VecSumsSaid :=
  OpenClaim.holds_of_wide 3 Tryd.f3 rfl rfl rfl rfl rfl rfl rfl ⟨rfl, rfl, rfl, rfl, rfl⟩ rfl rfl rfl rfl rfl (by kernel_rfl) Tryd.func3 (by kernel_rfl)
    (of_decide_eq_true (by kernel_rfl)) (by unfold Func.isWrapper; first | (rw [if_pos (by decide +kernel)]; kernel_rfl) | (rw [if_neg (by decide +kernel)]; exact ⟨rfl, rfl⟩))
    (fun os started H enc _ => lifted os started H enc)

/-- The statement: the tied card. -/
theorem proved : Rows.VecSumsCardSaid :=
  Claim7.holds_tied_plain_at .later [] [.data, .data, .data, .data, .sentinel, .sentinel, .pinned] true Rows.vecSumsCard.stood.harness true row (fun _ h => by cases h) (by kernel_rfl) (fun _ h => by cases h) vecSums_row_tie rfl ⟨rfl, rfl⟩ (by kernel_rfl) rfl
    (fun f fn hf hfn => by
      obtain rfl : f = 3 := Option.some.inj ((show Tryd.prog.funcNamed "demesne/demesnelaw03.VecSums" = some 3 by kernel_rfl).symm.trans hf) |>.symm
      obtain rfl : fn = Tryd.f3 := (Option.some.inj (Tryd.func3.symm.trans hfn)).symm
      exact ⟨by kernel_rfl, fun j t ht => by
        rw [Tryd.params3] at ht
        have hm : t ∈ [24, 24] := by simpa using Array.mem_of_getElem? ht
        have hall : ([24, 24].all fun u => !Tryd.prog.wantsStandIn u) = true := by kernel_rfl
        exact (show Tryd.prog.wantsStandIn t = false by simpa using List.all_eq_true.1 hall t hm)⟩)
    (by kernel_rfl)
end Go.Proofs.YtaljedficmpjpaaDoor.vecSums
