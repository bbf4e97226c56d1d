/- The chapter's examples, which every statement of layer 3 asks first, are answered as they should be. -/
import Derived.Test.YtaljedficmpjpaaDoorVOps
import Derived.Test.YtaljedficmpjpaaDoorVGet
import Derived.Test.YtaljedficmpjpaaDoorVKnown
namespace Go.Proofs.YtaljedficmpjpaaDoor.Vec
open Go.RowKit Go.Proofs.YtaljedficmpjpaaDoor.Wire

theorem range4 {a b c d : Int} (h : 0 ≤ a ∧ a ≤ 18446744073709551615) (h1 : 0 ≤ b ∧ b ≤ 18446744073709551615) (h2 : 0 ≤ c ∧ c ≤ 18446744073709551615) (h3 : 0 ≤ d ∧ d ≤ 18446744073709551615) : InRange (of4 a b c d) := by
  intro i hi
  have : i = 0 ∨ i = 1 ∨ i = 2 ∨ i = 3 := by omega
  rcases this with rfl | rfl | rfl | rfl
  · exact h
  · exact h1
  · exact h2
  · exact h3
theorem all4 {p : Nat → Prop} (h0 : p 0) (h1 : p 1) (h2 : p 2) (h3 : p 3) : ∀ i, i < 4 → p i := four_all.2 ⟨h0, h1, h2, h3⟩

theorem rA : InRange (of4 5 9 0 0) := range4 (by decide) (by decide) (by decide) (by decide)
theorem rB : InRange (of4 2 3 0 0) := range4 (by decide) (by decide) (by decide) (by decide)
theorem rC : InRange (of4 7 12 0 0) := range4 (by decide) (by decide) (by decide) (by decide)
theorem rT : InRange (of4 6 9 0 0) := range4 (by decide) (by decide) (by decide) (by decide)

theorem ex_add (w : World) : Calls Tryd.prog 9 #[.agg #[.int .u64 5, .int .u64 9, .int .u64 0, .int .u64 0], .agg #[.int .u64 2, .int .u64 3, .int .u64 0, .int .u64 0]] w fun e w' => e = .returned (.tuple #[.agg #[.int .u64 7, .int .u64 12, .int .u64 0, .int .u64 0], .bool true]) ∧ Below w.heap.size w w' :=
  add_yes (of4 5 9 0 0) (of4 2 3 0 0) (of4 7 12 0 0) rA rB rC (all4 rfl rfl rfl rfl) w
theorem ex_sub (w : World) : Calls Tryd.prog 10 #[.agg #[.int .u64 7, .int .u64 12, .int .u64 0, .int .u64 0], .agg #[.int .u64 2, .int .u64 3, .int .u64 0, .int .u64 0]] w fun e w' => e = .returned (.tuple #[.agg #[.int .u64 5, .int .u64 9, .int .u64 0, .int .u64 0], .bool true]) ∧ Below w.heap.size w w' :=
  sub_yes (of4 7 12 0 0) (of4 2 3 0 0) (of4 5 9 0 0) rC rB (all4 (by decide) (by decide) (by decide) (by decide)) (all4 rfl rfl rfl rfl) w
theorem ex_no (w : World) : Calls Tryd.prog 10 #[.agg #[.int .u64 2, .int .u64 3, .int .u64 0, .int .u64 0], .agg #[.int .u64 5, .int .u64 9, .int .u64 0, .int .u64 0]] w fun e w' => e = .returned (.tuple #[.agg #[.int .u64 0, .int .u64 0, .int .u64 0, .int .u64 0], .bool false]) ∧ Below w.heap.size w w' :=
  sub_no (of4 2 3 0 0) (of4 5 9 0 0) rB rA (fun h => absurd (h 0 (by omega)) (by decide)) w
theorem ex_times (w : World) : Calls Tryd.prog 14 #[.agg #[.int .u64 2, .int .u64 3, .int .u64 0, .int .u64 0], .int .u64 3] w fun e w' => e = .returned (.tuple #[.agg #[.int .u64 6, .int .u64 9, .int .u64 0, .int .u64 0], .bool true]) ∧ Below w.heap.size w w' :=
  times_yes (of4 2 3 0 0) (of4 6 9 0 0) 3 rB (by decide) rT (all4 rfl rfl rfl rfl) w
theorem ex_holds (w : World) : Calls Tryd.prog 13 #[.agg #[.int .u64 5, .int .u64 9, .int .u64 0, .int .u64 0], .agg #[.int .u64 2, .int .u64 3, .int .u64 0, .int .u64 0], .int .i64 8] w fun e w' => e = .returned (.int .i64 2) ∧ Below w.heap.size w w' :=
  holds_any (of4 5 9 0 0) (of4 2 3 0 0) rA rB 8 8 (by decide) (by decide) rfl w
theorem ex_fits (w : World) : Calls Tryd.prog 11 #[.agg #[.int .u64 2, .int .u64 3, .int .u64 0, .int .u64 0], .agg #[.int .u64 5, .int .u64 9, .int .u64 0, .int .u64 0]] w fun e w' => e = .returned (.bool true) ∧ Below w.heap.size w w' :=
  fits_any (of4 2 3 0 0) (of4 5 9 0 0) w
theorem ex_fitsnot (w : World) : Calls Tryd.prog 11 #[.agg #[.int .u64 5, .int .u64 9, .int .u64 0, .int .u64 0], .agg #[.int .u64 2, .int .u64 3, .int .u64 0, .int .u64 0]] w fun e w' => e = .returned (.bool false) ∧ Below w.heap.size w w' :=
  fits_any (of4 5 9 0 0) (of4 2 3 0 0) w
theorem ex_order (w : World) : Calls Tryd.prog 12 #[.agg #[.int .u64 2, .int .u64 3, .int .u64 0, .int .u64 0], .agg #[.int .u64 5, .int .u64 9, .int .u64 0, .int .u64 0]] w fun e w' => e = .returned (.int .i64 (-1)) ∧ Below w.heap.size w w' :=
  order_any (of4 2 3 0 0) (of4 5 9 0 0) w
theorem ex_put (w : World) : Calls Tryd.prog 17 #[.agg #[.int .u64 5, .int .u64 9, .int .u64 0, .int .u64 0]] w fun e w' => e = .returned (.string ⟨#[5, 9, 0, 0]⟩) ∧ Below w.heap.size w w' := by
  have h := putV_any (of4 5 9 0 0) (fun k hk => of4_lt (p := (· < 18446744073709551616)) (by omega) (by omega) (by omega) (by omega) hk) w
  have e : putV (of4 5 9 0 0) 4 = [5, 9, 0, 0] := by
    simp only [putV, of4]
    rw [putL_lt (by omega), putL_lt (by omega), putL_lt (by omega)]
    rfl
  rw [e] at h
  exact h
theorem ex_parse (w : World) : Calls Tryd.prog 15 #[.string ⟨#[53, 58, 57, 58, 48, 58, 48]⟩] w fun e w' => e = .returned (.tuple #[.agg #[.int .u64 5, .int .u64 9, .int .u64 0, .int .u64 0], .bool true]) ∧ Below w.heap.size w w' := parse_ex w
theorem ex_text (w : World) : Calls Tryd.prog 18 #[.agg #[.int .u64 2, .int .u64 3, .int .u64 0, .int .u64 0]] w fun e w' => e = .returned (.string ⟨#[50, 58, 51, 58, 48, 58, 48]⟩) ∧ Below w.heap.size w w' := text_ex w
theorem getV_small {l r : List UInt8} {p u : Nat} (h : l.drop p = UInt8.ofNat u :: r) (hu : u < 128) : getV l p = some (u, p + 1) := by
  have hs : Stands u (l.drop p) := ⟨by omega, r, by rw [putL_lt hu]; exact h⟩
  have := getV_of hs
  rw [putL_lt hu] at this
  exact this
theorem ex_get (w : World) : Calls Tryd.prog 16 #[.string (⟨#[120]⟩ ++ ⟨#[5, 9, 0, 0]⟩), .int .i64 1] w fun e w' => e = .returned (.tuple #[.agg #[.int .u64 5, .int .u64 9, .int .u64 0, .int .u64 0], .int .i64 5, .bool true]) ∧ Below w.heap.size w w' := by
  have es : ((⟨#[120]⟩ : ByteArray) ++ ⟨#[5, 9, 0, 0]⟩) = ⟨#[120, 5, 9, 0, 0]⟩ := rfl
  rw [es]
  refine (getVec_any ⟨#[120, 5, 9, 0, 0]⟩ (by decide) 1 w).mono ?_
  have g1 : getV [120, 5, 9, 0, 0] 1 = some (5, 2) := getV_small (p := 1) (u := 5) (r := [9, 0, 0]) rfl (by omega)
  have g2 : getV [120, 5, 9, 0, 0] 2 = some (9, 3) := getV_small (p := 2) (u := 9) (r := [0, 0]) rfl (by omega)
  have g3 : getV [120, 5, 9, 0, 0] 3 = some (0, 4) := getV_small (p := 3) (u := 0) (r := [0]) rfl (by omega)
  have g4 : getV [120, 5, 9, 0, 0] 4 = some (0, 5) := getV_small (p := 4) (u := 0) (r := []) rfl (by omega)
  have p1 : posAt [120, 5, 9, 0, 0] 1 1 = 2 := by rw [posAt, posAt, g1]; rfl
  have p2 : posAt [120, 5, 9, 0, 0] 1 2 = 3 := by rw [posAt, p1, g2]; rfl
  have p3 : posAt [120, 5, 9, 0, 0] 1 3 = 4 := by rw [posAt, p2, g3]; rfl
  have p4 : posAt [120, 5, 9, 0, 0] 1 4 = 5 := by rw [posAt, p3, g4]; rfl
  have v0 : valAt [120, 5, 9, 0, 0] 1 0 = 5 := by rw [valAt, posAt, g1]; rfl
  have v1 : valAt [120, 5, 9, 0, 0] 1 1 = 9 := by rw [valAt, p1, g2]; rfl
  have v2 : valAt [120, 5, 9, 0, 0] 1 2 = 0 := by rw [valAt, p2, g3]; rfl
  have v3 : valAt [120, 5, 9, 0, 0] 1 3 = 0 := by rw [valAt, p3, g4]; rfl
  have ok : ∀ i, i < 4 → okAt [120, 5, 9, 0, 0] 1 i = true := all4 (by rw [okAt, posAt, g1]; rfl) (by rw [okAt, p1, g2]; rfl) (by rw [okAt, p2, g3]; rfl) (by rw [okAt, p3, g4]; rfl)
  rintro e w' ⟨(⟨_, he⟩ | ⟨⟨i, hi, hf⟩, _⟩), hb⟩
  · refine ⟨?_, hb⟩
    rw [he]
    show Ending.returned (.tuple #[vec (valAt [120, 5, 9, 0, 0] 1 0) (valAt [120, 5, 9, 0, 0] 1 1) (valAt [120, 5, 9, 0, 0] 1 2) (valAt [120, 5, 9, 0, 0] 1 3), .int .i64 (posAt [120, 5, 9, 0, 0] 1 4), .bool true]) = _
    rw [v0, v1, v2, v3, p4]
    rfl
  · have := ok i hi
    rw [show okAt [120, 5, 9, 0, 0] 1 i = false from hf] at this
    simp at this

theorem grows {a b c : World} (h : Below a.heap.size a b) (k : Below b.heap.size b c) : Below a.heap.size a c := h.trans (k.mono h.size)
theorem keep0 {W w1 : World} {b : Nat} {o : Obj} (hb : Below W.heap.size W w1) (h : W.heap[b]? = some o) : w1.heap[b]? = some o :=
  (hb.block b (Array.getElem?_eq_some_iff.1 h).1).trans h
theorem keep1 {W w1 : World} {b : Nat} {o x : Obj} (hb : Below (W.alloc x).heap.size (W.alloc x) w1) (h : W.heap[b]? = some o) : w1.heap[b]? = some o :=
  keep0 hb ((heap_alloc_old _ _ (Array.getElem?_eq_some_iff.1 h).1).trans h)
theorem new1 {W w1 : World} {x : Obj} (hb : Below (W.alloc x).heap.size (W.alloc x) w1) : w1.heap[W.heap.size]? = some x := keep0 hb (heap_alloc_new _ _)
theorem chain1 {w W w1 : World} {x : Obj} (h : Below w.heap.size w W) (hb : Below (W.alloc x).heap.size (W.alloc x) w1) : Below w.heap.size w w1 := grows (h.alloc h.size x) hb
theorem has_cells {w : World} {T : Nat} {a b c d : Int} (h : w.heap[T]? = some (.cells #[.int .u64 a, .int .u64 b, .int .u64 c, .int .u64 d] 24)) :
    T < w.heap.size ∧ w.cell? ⟨T, 0, none⟩ = some (.int .u64 a) ∧ w.cell? ⟨T, 1, none⟩ = some (.int .u64 b) ∧ w.cell? ⟨T, 2, none⟩ = some (.int .u64 c) ∧ w.cell? ⟨T, 3, none⟩ = some (.int .u64 d) :=
  ⟨(Array.getElem?_eq_some_iff.1 h).1, cell_at h rfl, cell_at h rfl, cell_at h rfl, cell_at h rfl⟩
theorem two_laid (w : World) (x y : Obj) : ((w.alloc x).alloc y).heap[w.heap.size]? = some x ∧ ((w.alloc x).alloc y).heap[w.heap.size + 1]? = some y ∧ Below w.heap.size w ((w.alloc x).alloc y) :=
  ⟨(heap_alloc_old _ _ (by simp)).trans (heap_alloc_new _ _), heap_alloc2_new _ _ _, ((Below.refl _ _).alloc (Nat.le_refl _) _).alloc (by simp) _⟩

set_option maxRecDepth 100000 in
set_option maxHeartbeats 4000000 in
theorem examples_any (w : World) : Calls Tryd.prog 8 #[] w fun e w' => e = .returned (.bool true) ∧ Below w.heap.size w w' := by
  have heq := equal_vec'
  have hg := guard_vec
  have s1 : same 7 12 0 0 7 12 0 0 = true := rfl
  have s2 : same 5 9 0 0 5 9 0 0 = true := rfl
  have s3 : same 6 9 0 0 6 9 0 0 = true := rfl
  obtain ⟨ha0, hb0, hB0⟩ := two_laid w (.cells #[.int .u64 5, .int .u64 9, .int .u64 0, .int .u64 0] 24) (.cells #[.int .u64 2, .int .u64 3, .int .u64 0, .int .u64 0] 24)
  have ha := Lib.hid ha0
  have hy := Lib.hid hb0
  have hB := Lib.hid hB0
  clear ha0 hb0 hB0
  go_enter Tryd.func8, Tryd.ntmps8
  go_wp2_with fail
  refine (ex_add _).mono ?_
  rintro e w1 ⟨rfl, hb⟩
  have ha' := Lib.hid (keep0 hb ha.out)
  clear ha
  have ha := ha'
  clear ha'
  have hy' := Lib.hid (keep0 hb hy.out)
  clear hy
  have hy := hy'
  clear hy'
  have hB' := Lib.hid (grows hB.out hb)
  clear hB hb
  have hB := hB'
  clear hB'
  obtain ⟨ly, y0, y1, y2, y3⟩ := has_cells hy.out
  go_wp2_with fail
  refine (ex_sub _).mono ?_
  rintro e w2 ⟨rfl, hb⟩
  clear ly y0 y1 y2 y3
  have ha' := Lib.hid (keep1 hb ha.out)
  clear ha
  have ha := ha'
  clear ha'
  have hy' := Lib.hid (keep1 hb hy.out)
  clear hy
  have hy := hy'
  clear hy'
  have hc := Lib.hid (new1 hb)
  have hB' := Lib.hid (chain1 hB.out hb)
  clear hB hb
  have hB := hB'
  clear hB'
  obtain ⟨la, a0, a1, a2, a3⟩ := has_cells ha.out
  obtain ⟨ly, y0, y1, y2, y3⟩ := has_cells hy.out
  go_wp2_with fail
  refine (ex_no _).mono ?_
  rintro e w3 ⟨rfl, hb⟩
  clear la a0 a1 a2 a3
  clear ly y0 y1 y2 y3
  have ha' := Lib.hid (keep1 hb ha.out)
  clear ha
  have ha := ha'
  clear ha'
  have hy' := Lib.hid (keep1 hb hy.out)
  clear hy
  have hy := hy'
  clear hy'
  have hc' := Lib.hid (keep1 hb hc.out)
  clear hc
  have hc := hc'
  clear hc'
  have hd := Lib.hid (new1 hb)
  have hB' := Lib.hid (chain1 hB.out hb)
  clear hB hb
  have hB := hB'
  clear hB'
  obtain ⟨ly, y0, y1, y2, y3⟩ := has_cells hy.out
  go_wp2_with fail
  refine (ex_times _).mono ?_
  rintro e w4 ⟨rfl, hb⟩
  clear ly y0 y1 y2 y3
  have ha' := Lib.hid (keep1 hb ha.out)
  clear ha
  have ha := ha'
  clear ha'
  have hy' := Lib.hid (keep1 hb hy.out)
  clear hy
  have hy := hy'
  clear hy'
  have hc' := Lib.hid (keep1 hb hc.out)
  clear hc
  have hc := hc'
  clear hc'
  have hd' := Lib.hid (keep1 hb hd.out)
  clear hd
  have hd := hd'
  clear hd'
  have hf := Lib.hid (new1 hb)
  have hB' := Lib.hid (chain1 hB.out hb)
  clear hB hb
  have hB := hB'
  clear hB'
  go_wp2_with fail
  refine (ex_parse _).mono ?_
  rintro e w5 ⟨rfl, hb⟩
  have ha' := Lib.hid (keep1 hb ha.out)
  clear ha
  have ha := ha'
  clear ha'
  have hy' := Lib.hid (keep1 hb hy.out)
  clear hy
  have hy := hy'
  clear hy'
  have hc' := Lib.hid (keep1 hb hc.out)
  clear hc
  have hc := hc'
  clear hc'
  have hd' := Lib.hid (keep1 hb hd.out)
  clear hd
  have hd := hd'
  clear hd'
  have hf' := Lib.hid (keep1 hb hf.out)
  clear hf
  have hf := hf'
  clear hf'
  have ht := Lib.hid (new1 hb)
  have hB' := Lib.hid (chain1 hB.out hb)
  clear hB hb
  have hB := hB'
  clear hB'
  obtain ⟨la, a0, a1, a2, a3⟩ := has_cells ha.out
  go_wp2_with fail
  refine (ex_put _).mono ?_
  rintro e w6 ⟨rfl, hb⟩
  clear la a0 a1 a2 a3
  have ha' := Lib.hid (keep1 hb ha.out)
  clear ha
  have ha := ha'
  clear ha'
  have hy' := Lib.hid (keep1 hb hy.out)
  clear hy
  have hy := hy'
  clear hy'
  have hc' := Lib.hid (keep1 hb hc.out)
  clear hc
  have hc := hc'
  clear hc'
  have hd' := Lib.hid (keep1 hb hd.out)
  clear hd
  have hd := hd'
  clear hd'
  have hf' := Lib.hid (keep1 hb hf.out)
  clear hf
  have hf := hf'
  clear hf'
  have ht' := Lib.hid (keep1 hb ht.out)
  clear ht
  have ht := ht'
  clear ht'
  have hp := Lib.hid (new1 hb)
  have hB' := Lib.hid (chain1 hB.out hb)
  clear hB hb
  have hB := hB'
  clear hB'
  go_wp2_with fail
  refine (ex_get _).mono ?_
  rintro e w7 ⟨rfl, hb⟩
  have ha' := Lib.hid (keep0 hb ha.out)
  clear ha
  have ha := ha'
  clear ha'
  have hy' := Lib.hid (keep0 hb hy.out)
  clear hy
  have hy := hy'
  clear hy'
  have hc' := Lib.hid (keep0 hb hc.out)
  clear hc
  have hc := hc'
  clear hc'
  have hd' := Lib.hid (keep0 hb hd.out)
  clear hd
  have hd := hd'
  clear hd'
  have hf' := Lib.hid (keep0 hb hf.out)
  clear hf
  have hf := hf'
  clear hf'
  have ht' := Lib.hid (keep0 hb ht.out)
  clear ht
  have ht := ht'
  clear ht'
  have hp' := Lib.hid (keep0 hb hp.out)
  clear hp
  have hp := hp'
  clear hp'
  have hB' := Lib.hid (grows hB.out hb)
  clear hB hb
  have hB := hB'
  clear hB'
  obtain ⟨la, a0, a1, a2, a3⟩ := has_cells ha.out
  obtain ⟨ly, y0, y1, y2, y3⟩ := has_cells hy.out
  obtain ⟨lc, c0, c1, c2, c3⟩ := has_cells hc.out
  obtain ⟨ld, d0, d1, d2, d3⟩ := has_cells hd.out
  obtain ⟨lt, t0, t1, t2, t3⟩ := has_cells ht.out
  go_wp2_with fail
  refine (ex_holds _).mono ?_
  rintro e w8 ⟨rfl, hb⟩
  clear la a0 a1 a2 a3
  clear ly y0 y1 y2 y3
  clear lc c0 c1 c2 c3
  clear ld d0 d1 d2 d3
  clear lt t0 t1 t2 t3
  have ha' := Lib.hid (keep1 hb ha.out)
  clear ha
  have ha := ha'
  clear ha'
  have hy' := Lib.hid (keep1 hb hy.out)
  clear hy
  have hy := hy'
  clear hy'
  have hc' := Lib.hid (keep1 hb hc.out)
  clear hc
  have hc := hc'
  clear hc'
  have hd' := Lib.hid (keep1 hb hd.out)
  clear hd
  have hd := hd'
  clear hd'
  have hf' := Lib.hid (keep1 hb hf.out)
  clear hf
  have hf := hf'
  clear hf'
  have ht' := Lib.hid (keep1 hb ht.out)
  clear ht
  have ht := ht'
  clear ht'
  have hp' := Lib.hid (keep1 hb hp.out)
  clear hp
  have hp := hp'
  clear hp'
  have hg := Lib.hid (new1 hb)
  have hB' := Lib.hid (chain1 hB.out hb)
  clear hB hb
  have hB := hB'
  clear hB'
  obtain ⟨la, a0, a1, a2, a3⟩ := has_cells ha.out
  obtain ⟨ly, y0, y1, y2, y3⟩ := has_cells hy.out
  go_wp2_with fail
  refine (ex_fits _).mono ?_
  rintro e w9 ⟨rfl, hb⟩
  clear la a0 a1 a2 a3
  clear ly y0 y1 y2 y3
  have ha' := Lib.hid (keep0 hb ha.out)
  clear ha
  have ha := ha'
  clear ha'
  have hy' := Lib.hid (keep0 hb hy.out)
  clear hy
  have hy := hy'
  clear hy'
  have hc' := Lib.hid (keep0 hb hc.out)
  clear hc
  have hc := hc'
  clear hc'
  have hd' := Lib.hid (keep0 hb hd.out)
  clear hd
  have hd := hd'
  clear hd'
  have hf' := Lib.hid (keep0 hb hf.out)
  clear hf
  have hf := hf'
  clear hf'
  have ht' := Lib.hid (keep0 hb ht.out)
  clear ht
  have ht := ht'
  clear ht'
  have hp' := Lib.hid (keep0 hb hp.out)
  clear hp
  have hp := hp'
  clear hp'
  have hg' := Lib.hid (keep0 hb hg.out)
  clear hg
  have hg := hg'
  clear hg'
  have hB' := Lib.hid (grows hB.out hb)
  clear hB hb
  have hB := hB'
  clear hB'
  obtain ⟨la, a0, a1, a2, a3⟩ := has_cells ha.out
  obtain ⟨ly, y0, y1, y2, y3⟩ := has_cells hy.out
  go_wp2_with fail
  refine (ex_fitsnot _).mono ?_
  rintro e w10 ⟨rfl, hb⟩
  clear la a0 a1 a2 a3
  clear ly y0 y1 y2 y3
  have ha' := Lib.hid (keep0 hb ha.out)
  clear ha
  have ha := ha'
  clear ha'
  have hy' := Lib.hid (keep0 hb hy.out)
  clear hy
  have hy := hy'
  clear hy'
  have hc' := Lib.hid (keep0 hb hc.out)
  clear hc
  have hc := hc'
  clear hc'
  have hd' := Lib.hid (keep0 hb hd.out)
  clear hd
  have hd := hd'
  clear hd'
  have hf' := Lib.hid (keep0 hb hf.out)
  clear hf
  have hf := hf'
  clear hf'
  have ht' := Lib.hid (keep0 hb ht.out)
  clear ht
  have ht := ht'
  clear ht'
  have hp' := Lib.hid (keep0 hb hp.out)
  clear hp
  have hp := hp'
  clear hp'
  have hg' := Lib.hid (keep0 hb hg.out)
  clear hg
  have hg := hg'
  clear hg'
  have hB' := Lib.hid (grows hB.out hb)
  clear hB hb
  have hB := hB'
  clear hB'
  obtain ⟨la, a0, a1, a2, a3⟩ := has_cells ha.out
  obtain ⟨ly, y0, y1, y2, y3⟩ := has_cells hy.out
  go_wp2_with fail
  refine (ex_order _).mono ?_
  rintro e w11 ⟨rfl, hb⟩
  clear la a0 a1 a2 a3
  clear ly y0 y1 y2 y3
  have ha' := Lib.hid (keep0 hb ha.out)
  clear ha
  have ha := ha'
  clear ha'
  have hy' := Lib.hid (keep0 hb hy.out)
  clear hy
  have hy := hy'
  clear hy'
  have hc' := Lib.hid (keep0 hb hc.out)
  clear hc
  have hc := hc'
  clear hc'
  have hd' := Lib.hid (keep0 hb hd.out)
  clear hd
  have hd := hd'
  clear hd'
  have hf' := Lib.hid (keep0 hb hf.out)
  clear hf
  have hf := hf'
  clear hf'
  have ht' := Lib.hid (keep0 hb ht.out)
  clear ht
  have ht := ht'
  clear ht'
  have hp' := Lib.hid (keep0 hb hp.out)
  clear hp
  have hp := hp'
  clear hp'
  have hg' := Lib.hid (keep0 hb hg.out)
  clear hg
  have hg := hg'
  clear hg'
  have hB' := Lib.hid (grows hB.out hb)
  clear hB hb
  have hB := hB'
  clear hB'
  obtain ⟨la, a0, a1, a2, a3⟩ := has_cells ha.out
  obtain ⟨ly, y0, y1, y2, y3⟩ := has_cells hy.out
  obtain ⟨lp, p0, p1, p2, p3⟩ := has_cells hp.out
  go_wp2_with fail
  refine (ex_text _).mono ?_
  rintro e w12 ⟨rfl, hb⟩
  clear la a0 a1 a2 a3
  clear ly y0 y1 y2 y3
  clear lp p0 p1 p2 p3
  have ha' := Lib.hid (keep0 hb ha.out)
  clear ha
  have ha := ha'
  clear ha'
  have hy' := Lib.hid (keep0 hb hy.out)
  clear hy
  have hy := hy'
  clear hy'
  have hc' := Lib.hid (keep0 hb hc.out)
  clear hc
  have hc := hc'
  clear hc'
  have hd' := Lib.hid (keep0 hb hd.out)
  clear hd
  have hd := hd'
  clear hd'
  have hf' := Lib.hid (keep0 hb hf.out)
  clear hf
  have hf := hf'
  clear hf'
  have ht' := Lib.hid (keep0 hb ht.out)
  clear ht
  have ht := ht'
  clear ht'
  have hp' := Lib.hid (keep0 hb hp.out)
  clear hp
  have hp := hp'
  clear hp'
  have hg' := Lib.hid (keep0 hb hg.out)
  clear hg
  have hg := hg'
  clear hg'
  have hB' := Lib.hid (grows hB.out hb)
  clear hB hb
  have hB := hB'
  clear hB'
  obtain ⟨la, a0, a1, a2, a3⟩ := has_cells ha.out
  obtain ⟨lg, g0, g1, g2, g3⟩ := has_cells hg.out
  go_wp2
  go_ret
  exact ⟨rfl, hB.out⟩
end Go.Proofs.YtaljedficmpjpaaDoor.Vec
