/- What disk.do makes of a disk, of any deed that is handed in: the file's, or with no fuse left what a loss of power leaves of the broken one. -/
import Derived.Test.YtoomanlonhnleaaDCrash
import Derived.Deep.DeepCutAuto
import Derived.Test.YtoomanlonhnleaaDWhole
namespace Go.Proofs.Ytoomanlonhnleaa.Disk
open Go.RowKit

theorem szD : (Try.prog.info? 26).map (·.size) = some 8 := by kernel_rfl
theorem szR : (Try.prog.info? 31).map (·.size) = some 8 := by kernel_rfl
theorem one8 (a f k : Int) (b c d e : ByteArray) (g : Bool) : (#[.int .i64 a, .string b, .string c, .string d, .string e, .bool g, .int .i64 f, .int .i64 k] : Array Value).all (·.oneCell') = true := by simp [Value.oneCell']
/-- What is handed back out of a block of eight cells, and a slot. -/
theorem result_two' {fn : Func} {p q : Tmp} (h : fn.results = #[.cell p 26, .tmp q]) (tmps : Array Value) (w : World) {b : Nat} (v0 v1 v2 v3 v4 v5 v6 v7 v : Value) (hp : tmps.getD p undef = .pointer (some ⟨b, 0, none⟩))
    (hb : w.heap[b]? = some (.cells #[v0, v1, v2, v3, v4, v5, v6, v7] 26)) (hv : tmps.getD q undef = v) : (results fn tmps).run Try.prog w = .ok (.tuple #[.agg #[v0, v1, v2, v3, v4, v5, v6, v7], v]) w :=
  Whole.result_two h tmps Try.prog w hp hb Try.underlying26 rfl szD hv

set_option maxHeartbeats 800000 in
theorem do0_out (sz : Int) (a0 b0 a1 b1 c d : ByteArray) (dn : Bool) (fu kp : Int) (F G : FuncId) (capF capG : Array Value) (w : World)
    (hcF : ∀ (args : Array Value) (w : World), (callFunc G args).run Try.prog w = .ok (.enter G args) w)
    (hF : ∀ w', Below w.heap.size w w' → Calls Try.prog G (#[.agg #[.string a0, .string b0]] ++ capG) w' fun e w'' => e = .returned (.agg #[.string c, .string d]) ∧ Below w'.heap.size w' w'') (hfu : fu = 0) (z0 : Int) (z1 z2 z3 z4 : ByteArray) (z5 : Bool) (z6 z7 : Int)
    (hC : ∀ w', Calls Try.prog 16 #[.agg #[.int .i64 sz, .string c, .string d, .string a1, .string b1, .bool dn, .int .i64 fu, .int .i64 kp], .int .i64 kp] w' fun e w'' => e = .returned (.agg #[.int .i64 z0, .string z1, .string z2, .string z3, .string z4, .bool z5, .int .i64 z6, .int .i64 z7]) ∧ Below w'.heap.size w' w'') :
    Calls Try.prog 31 #[.agg #[.int .i64 sz, .string a0, .string b0, .string a1, .string b1, .bool dn, .int .i64 fu, .int .i64 kp], .int .i64 0, .func (.func F) #[] capF, .func (.func G) #[] capG] w fun e w' =>
      e = .returned (.tuple #[.agg #[.int .i64 z0, .string z1, .string z2, .string z3, .string z4, .bool z5, .int .i64 z6, .int .i64 z7], .int .i64 12]) ∧ Below w.heap.size w w' := by
  have HF := Lib.hid hF
  clear hF
  have HC := Lib.hid hC
  clear hC
  subst hfu
  · go_enter Try.func31, Try.ntmps31
    go_wp2_with fail
    refine (HF.out _ ((Boxes.old _ _).trans ((Boxes.old _ _).mono (Boxes.old _ _).size))).mono ?_
    rintro e w1 ⟨rfl, hw⟩
    have hB1 := ((Boxes.old _ _).trans ((Boxes.old _ _).mono (Boxes.old _ _).size)).trans (hw.mono ((Boxes.old _ _).trans ((Boxes.old _ _).mono (Boxes.old _ _).size)).size)
    have hD1 := Boxes.keep (Boxes.keep (Boxes.fresh _ _) (Boxes.old _ _)) hw
    have hR1 := Boxes.keep (Boxes.fresh1 _ _ _) hw
    have hD2 := set1of8 hD1 (.string c) (.string d)
    have hR2 := (other2 (w := w1) (b := w.heap.size) (c := w.heap.size + 1) 1 2 (.string c) (.string d) (by omega)).trans hR1
    have hB2 := (hB1.setCell (p := ⟨w.heap.size, 1, none⟩) (Nat.le_refl _) (.string c)).setCell (p := ⟨w.heap.size, 2, none⟩) (Nat.le_refl _) (.string d)
    obtain ⟨_, t1, t2, t3, t4, _, _, _⟩ := cells8 hD1
    have hf := thaw hD1
    go_upto_region 3 with fail
    obtain ⟨w2, hw2⟩ : ∃ w2, w2 = (w1.setCell ⟨w.heap.size, 1, none⟩ (.string c)).setCell ⟨w.heap.size, 2, none⟩ (.string d) := ⟨_, rfl⟩
    rw [← hw2] at hD2 hR2 hB2 ⊢
    clear hw2 t1 t2 t3 t4 hf hD1 hR1 hB1 hw
    obtain ⟨_, _, _, _, _, _, t6, t7⟩ := cells8 hD2
    have hf := thaw hD2
    go_wp2_with (refine Whole.load w2 rfl _ 26 rfl w.heap.size _ _ rfl hD2 Try.underlying26 rfl szD ?_)
    refine (HC.out _).mono ?_
    rintro e w3 ⟨rfl, hw3⟩
    have hR3 := Boxes.keep hR2 hw3
    have hB3 := hB2.trans (hw3.mono hB2.size)
    clear hD2 hR2 hB2 hw3 t6 t7
    have hB4 := Whole.row_below (g := w.heap.size + 1) hB3 (Nat.le_succ _) #[.int .i64 z0, .string z1, .string z2, .string z3, .string z4, .bool z5, .int .i64 z6, .int .i64 z7]
    have hE := setRow_heap w3 (w.heap.size + 1) _ #[.int .i64 z0, .string z1, .string z2, .string z3, .string z4, .bool z5, .int .i64 z6, .int .i64 z7] _ _ hR3
    clear hf
    go_wp2_with (first | (refine Whole.load w3 rfl _ 26 rfl w.heap.size _ _ rfl hR3 Try.underlying26 rfl szD ?_) | (refine Whole.store w3 rfl rfl _ _ 26 rfl (w.heap.size + 1) _ #[.int .i64 z0, .string z1, .string z2, .string z3, .string z4, .bool z5, .int .i64 z6, .int .i64 z7] rfl rfl hR3 szD rfl (one8 _ _ _ _ _ _ _ _) ?_))
    refine bodyPost_ret (v := .tuple #[.agg #[.int .i64 z0, .string z1, .string z2, .string z3, .string z4, .bool z5, .int .i64 z6, .int .i64 z7], .int .i64 12]) (result_two' rfl _ _ _ _ _ _ _ _ _ _ _ rfl hE rfl) rfl ⟨rfl, hB4⟩
set_option maxHeartbeats 800000 in
theorem do0_none (sz : Int) (a0 b0 a1 b1 c d : ByteArray) (dn : Bool) (fu kp : Int) (F G : FuncId) (capF capG : Array Value) (w : World)
    (hcF : ∀ (args : Array Value) (w : World), (callFunc F args).run Try.prog w = .ok (.enter F args) w)
    (hF : ∀ w', Below w.heap.size w w' → Calls Try.prog F (#[.agg #[.string a0, .string b0]] ++ capF) w' fun e w'' => e = .returned (.agg #[.string c, .string d]) ∧ Below w'.heap.size w' w'') (hfu : fu < 0) :
    Calls Try.prog 31 #[.agg #[.int .i64 sz, .string a0, .string b0, .string a1, .string b1, .bool dn, .int .i64 fu, .int .i64 kp], .int .i64 0, .func (.func F) #[] capF, .func (.func G) #[] capG] w fun e w' =>
      e = .returned (.tuple #[.agg #[.int .i64 sz, .string c, .string d, .string a1, .string b1, .bool dn, .int .i64 fu, .int .i64 kp], .int .i64 0]) ∧ Below w.heap.size w w' := by
  have HF := Lib.hid hF
  clear hF
  have hne : ¬ fu = 0 := by omega
  have hne' : (fu == 0) = false := by rw [beq_eq_false_iff_ne]; omega
  have hnp : ¬ 0 < fu := by omega
  · go_enter Try.func31, Try.ntmps31
    go_wp2_with fail
    refine (HF.out _ ((Boxes.old _ _).trans ((Boxes.old _ _).mono (Boxes.old _ _).size))).mono ?_
    rintro e w1 ⟨rfl, hw⟩
    have hB1 := ((Boxes.old _ _).trans ((Boxes.old _ _).mono (Boxes.old _ _).size)).trans (hw.mono ((Boxes.old _ _).trans ((Boxes.old _ _).mono (Boxes.old _ _).size)).size)
    have hD1 := Boxes.keep (Boxes.keep (Boxes.fresh _ _) (Boxes.old _ _)) hw
    have hR1 := Boxes.keep (Boxes.fresh1 _ _ _) hw
    have hD2 := set1of8 hD1 (.string c) (.string d)
    have hR2 := (other2 (w := w1) (b := w.heap.size) (c := w.heap.size + 1) 1 2 (.string c) (.string d) (by omega)).trans hR1
    have hB2 := (hB1.setCell (p := ⟨w.heap.size, 1, none⟩) (Nat.le_refl _) (.string c)).setCell (p := ⟨w.heap.size, 2, none⟩) (Nat.le_refl _) (.string d)
    obtain ⟨_, t1, t2, t3, t4, _, _, _⟩ := cells8 hD1
    have hf := thaw hD1
    go_upto_region 5 with fail
    obtain ⟨w2, hw2⟩ : ∃ w2, w2 = (w1.setCell ⟨w.heap.size, 1, none⟩ (.string c)).setCell ⟨w.heap.size, 2, none⟩ (.string d) := ⟨_, rfl⟩
    rw [← hw2] at hD2 hR2 hB2 ⊢
    clear hw2 t1 t2 t3 t4 hf hD1 hR1 hB1 hw
    obtain ⟨_, _, _, _, _, _, t6, t7⟩ := cells8 hD2
    have hf := thaw hD2
    have hR3 := hR2
    have hB3 := hB2
    have hnd : decide (0 < fu) = false := decide_eq_false (by omega)
    go_upto_region 7 with fail
    clear t6 t7
    have hB4 := Whole.row_below (g := w.heap.size + 1) hB3 (Nat.le_succ _) #[.int .i64 sz, .string c, .string d, .string a1, .string b1, .bool dn, .int .i64 fu, .int .i64 kp]
    have hE := setRow_heap w2 (w.heap.size + 1) _ #[.int .i64 sz, .string c, .string d, .string a1, .string b1, .bool dn, .int .i64 fu, .int .i64 kp] _ _ hR3
    clear hf
    go_wp2_with (first | (refine Whole.load w2 rfl _ 26 rfl w.heap.size _ _ rfl hD2 Try.underlying26 rfl szD ?_) | (refine Whole.store w2 rfl rfl _ _ 26 rfl (w.heap.size + 1) _ #[.int .i64 sz, .string c, .string d, .string a1, .string b1, .bool dn, .int .i64 fu, .int .i64 kp] rfl rfl hR3 szD rfl (one8 _ _ _ _ _ _ _ _) ?_))
    refine bodyPost_ret (v := .tuple #[.agg #[.int .i64 sz, .string c, .string d, .string a1, .string b1, .bool dn, .int .i64 fu, .int .i64 kp], .int .i64 0]) (result_two' rfl _ _ _ _ _ _ _ _ _ _ _ rfl hE rfl) rfl ⟨rfl, hB4⟩
set_option maxHeartbeats 800000 in
theorem do0_some (sz : Int) (a0 b0 a1 b1 c d : ByteArray) (dn : Bool) (fu kp : Int) (F G : FuncId) (capF capG : Array Value) (w : World)
    (hcF : ∀ (args : Array Value) (w : World), (callFunc F args).run Try.prog w = .ok (.enter F args) w)
    (hF : ∀ w', Below w.heap.size w w' → Calls Try.prog F (#[.agg #[.string a0, .string b0]] ++ capF) w' fun e w'' => e = .returned (.agg #[.string c, .string d]) ∧ Below w'.heap.size w' w'') (hfu : 0 < fu) (hfu1 : fu ≤ 9223372036854775807) :
    Calls Try.prog 31 #[.agg #[.int .i64 sz, .string a0, .string b0, .string a1, .string b1, .bool dn, .int .i64 fu, .int .i64 kp], .int .i64 0, .func (.func F) #[] capF, .func (.func G) #[] capG] w fun e w' =>
      e = .returned (.tuple #[.agg #[.int .i64 sz, .string c, .string d, .string a1, .string b1, .bool dn, .int .i64 (fu - 1), .int .i64 kp], .int .i64 0]) ∧ Below w.heap.size w w' := by
  have HF := Lib.hid hF
  clear hF
  have hne : ¬ fu = 0 := by omega
  have hne' : (fu == 0) = false := by rw [beq_eq_false_iff_ne]; omega
  · go_enter Try.func31, Try.ntmps31
    go_wp2_with fail
    refine (HF.out _ ((Boxes.old _ _).trans ((Boxes.old _ _).mono (Boxes.old _ _).size))).mono ?_
    rintro e w1 ⟨rfl, hw⟩
    have hB1 := ((Boxes.old _ _).trans ((Boxes.old _ _).mono (Boxes.old _ _).size)).trans (hw.mono ((Boxes.old _ _).trans ((Boxes.old _ _).mono (Boxes.old _ _).size)).size)
    have hD1 := Boxes.keep (Boxes.keep (Boxes.fresh _ _) (Boxes.old _ _)) hw
    have hR1 := Boxes.keep (Boxes.fresh1 _ _ _) hw
    have hD2 := set1of8 hD1 (.string c) (.string d)
    have hR2 := (other2 (w := w1) (b := w.heap.size) (c := w.heap.size + 1) 1 2 (.string c) (.string d) (by omega)).trans hR1
    have hB2 := (hB1.setCell (p := ⟨w.heap.size, 1, none⟩) (Nat.le_refl _) (.string c)).setCell (p := ⟨w.heap.size, 2, none⟩) (Nat.le_refl _) (.string d)
    obtain ⟨_, t1, t2, t3, t4, _, _, _⟩ := cells8 hD1
    have hf := thaw hD1
    go_upto_region 5 with fail
    obtain ⟨w2, hw2⟩ : ∃ w2, w2 = (w1.setCell ⟨w.heap.size, 1, none⟩ (.string c)).setCell ⟨w.heap.size, 2, none⟩ (.string d) := ⟨_, rfl⟩
    rw [← hw2] at hD2 hR2 hB2 ⊢
    clear hw2 t1 t2 t3 t4 hf hD1 hR1 hB1 hw
    obtain ⟨_, _, _, _, _, _, t6, t7⟩ := cells8 hD2
    have hf := thaw hD2
    have hD3 : _ = some (Obj.cells #[.int .i64 sz, .string c, .string d, .string a1, .string b1, .bool dn, .int .i64 (fu - 1), .int .i64 kp] 26) := heap_setCell_same _ w.heap.size 6 _ _ (.int .i64 (fu - 1)) hD2
    have hR3 := (heap_setCell_other w2 ⟨w.heap.size, 6, none⟩ (w.heap.size + 1) (.int .i64 (fu - 1)) (by simp)).trans hR2
    have hB3 := hB2.setCell (p := ⟨w.heap.size, 6, none⟩) (Nat.le_refl _) (.int .i64 (fu - 1))
    go_upto_region 7 with fail
    obtain ⟨w3, hw3⟩ : ∃ w3, w3 = w2.setCell ⟨w.heap.size, 6, none⟩ (.int .i64 (fu - 1)) := ⟨_, rfl⟩
    rw [← hw3] at hD3 hR3 hB3 ⊢
    clear hw3 t6 t7 hD2 hR2 hB2
    have hB4 := Whole.row_below (g := w.heap.size + 1) hB3 (Nat.le_succ _) #[.int .i64 sz, .string c, .string d, .string a1, .string b1, .bool dn, .int .i64 (fu - 1), .int .i64 kp]
    have hE := setRow_heap w3 (w.heap.size + 1) _ #[.int .i64 sz, .string c, .string d, .string a1, .string b1, .bool dn, .int .i64 (fu - 1), .int .i64 kp] _ _ hR3
    clear hf
    go_wp2_with (first | (refine Whole.load w3 rfl _ 26 rfl w.heap.size _ _ rfl hD3 Try.underlying26 rfl szD ?_) | (refine Whole.store w3 rfl rfl _ _ 26 rfl (w.heap.size + 1) _ #[.int .i64 sz, .string c, .string d, .string a1, .string b1, .bool dn, .int .i64 (fu - 1), .int .i64 kp] rfl rfl hR3 szD rfl (one8 _ _ _ _ _ _ _ _) ?_))
    refine bodyPost_ret (v := .tuple #[.agg #[.int .i64 sz, .string c, .string d, .string a1, .string b1, .bool dn, .int .i64 (fu - 1), .int .i64 kp], .int .i64 0]) (result_two' rfl _ _ _ _ _ _ _ _ _ _ _ rfl hE rfl) rfl ⟨rfl, hB4⟩
set_option maxHeartbeats 800000 in
theorem do1_out (sz : Int) (a0 b0 a1 b1 c d : ByteArray) (dn : Bool) (fu kp : Int) (F G : FuncId) (capF capG : Array Value) (w : World)
    (hcF : ∀ (args : Array Value) (w : World), (callFunc G args).run Try.prog w = .ok (.enter G args) w)
    (hF : ∀ w', Below w.heap.size w w' → Calls Try.prog G (#[.agg #[.string a1, .string b1]] ++ capG) w' fun e w'' => e = .returned (.agg #[.string c, .string d]) ∧ Below w'.heap.size w' w'') (hfu : fu = 0) (z0 : Int) (z1 z2 z3 z4 : ByteArray) (z5 : Bool) (z6 z7 : Int)
    (hC : ∀ w', Calls Try.prog 16 #[.agg #[.int .i64 sz, .string a0, .string b0, .string c, .string d, .bool dn, .int .i64 fu, .int .i64 kp], .int .i64 kp] w' fun e w'' => e = .returned (.agg #[.int .i64 z0, .string z1, .string z2, .string z3, .string z4, .bool z5, .int .i64 z6, .int .i64 z7]) ∧ Below w'.heap.size w' w'') :
    Calls Try.prog 31 #[.agg #[.int .i64 sz, .string a0, .string b0, .string a1, .string b1, .bool dn, .int .i64 fu, .int .i64 kp], .int .i64 1, .func (.func F) #[] capF, .func (.func G) #[] capG] w fun e w' =>
      e = .returned (.tuple #[.agg #[.int .i64 z0, .string z1, .string z2, .string z3, .string z4, .bool z5, .int .i64 z6, .int .i64 z7], .int .i64 12]) ∧ Below w.heap.size w w' := by
  have HF := Lib.hid hF
  clear hF
  have HC := Lib.hid hC
  clear hC
  subst hfu
  · go_enter Try.func31, Try.ntmps31
    go_wp2_with fail
    refine (HF.out _ ((Boxes.old _ _).trans ((Boxes.old _ _).mono (Boxes.old _ _).size))).mono ?_
    rintro e w1 ⟨rfl, hw⟩
    have hB1 := ((Boxes.old _ _).trans ((Boxes.old _ _).mono (Boxes.old _ _).size)).trans (hw.mono ((Boxes.old _ _).trans ((Boxes.old _ _).mono (Boxes.old _ _).size)).size)
    have hD1 := Boxes.keep (Boxes.keep (Boxes.fresh _ _) (Boxes.old _ _)) hw
    have hR1 := Boxes.keep (Boxes.fresh1 _ _ _) hw
    have hD2 := set3of8 hD1 (.string c) (.string d)
    have hR2 := (other2 (w := w1) (b := w.heap.size) (c := w.heap.size + 1) 3 4 (.string c) (.string d) (by omega)).trans hR1
    have hB2 := (hB1.setCell (p := ⟨w.heap.size, 3, none⟩) (Nat.le_refl _) (.string c)).setCell (p := ⟨w.heap.size, 4, none⟩) (Nat.le_refl _) (.string d)
    obtain ⟨_, t1, t2, t3, t4, _, _, _⟩ := cells8 hD1
    have hf := thaw hD1
    go_upto_region 3 with fail
    obtain ⟨w2, hw2⟩ : ∃ w2, w2 = (w1.setCell ⟨w.heap.size, 3, none⟩ (.string c)).setCell ⟨w.heap.size, 4, none⟩ (.string d) := ⟨_, rfl⟩
    rw [← hw2] at hD2 hR2 hB2 ⊢
    clear hw2 t1 t2 t3 t4 hf hD1 hR1 hB1 hw
    obtain ⟨_, _, _, _, _, _, t6, t7⟩ := cells8 hD2
    have hf := thaw hD2
    go_wp2_with (refine Whole.load w2 rfl _ 26 rfl w.heap.size _ _ rfl hD2 Try.underlying26 rfl szD ?_)
    refine (HC.out _).mono ?_
    rintro e w3 ⟨rfl, hw3⟩
    have hR3 := Boxes.keep hR2 hw3
    have hB3 := hB2.trans (hw3.mono hB2.size)
    clear hD2 hR2 hB2 hw3 t6 t7
    have hB4 := Whole.row_below (g := w.heap.size + 1) hB3 (Nat.le_succ _) #[.int .i64 z0, .string z1, .string z2, .string z3, .string z4, .bool z5, .int .i64 z6, .int .i64 z7]
    have hE := setRow_heap w3 (w.heap.size + 1) _ #[.int .i64 z0, .string z1, .string z2, .string z3, .string z4, .bool z5, .int .i64 z6, .int .i64 z7] _ _ hR3
    clear hf
    go_wp2_with (first | (refine Whole.load w3 rfl _ 26 rfl w.heap.size _ _ rfl hR3 Try.underlying26 rfl szD ?_) | (refine Whole.store w3 rfl rfl _ _ 26 rfl (w.heap.size + 1) _ #[.int .i64 z0, .string z1, .string z2, .string z3, .string z4, .bool z5, .int .i64 z6, .int .i64 z7] rfl rfl hR3 szD rfl (one8 _ _ _ _ _ _ _ _) ?_))
    refine bodyPost_ret (v := .tuple #[.agg #[.int .i64 z0, .string z1, .string z2, .string z3, .string z4, .bool z5, .int .i64 z6, .int .i64 z7], .int .i64 12]) (result_two' rfl _ _ _ _ _ _ _ _ _ _ _ rfl hE rfl) rfl ⟨rfl, hB4⟩
set_option maxHeartbeats 800000 in
theorem do1_none (sz : Int) (a0 b0 a1 b1 c d : ByteArray) (dn : Bool) (fu kp : Int) (F G : FuncId) (capF capG : Array Value) (w : World)
    (hcF : ∀ (args : Array Value) (w : World), (callFunc F args).run Try.prog w = .ok (.enter F args) w)
    (hF : ∀ w', Below w.heap.size w w' → Calls Try.prog F (#[.agg #[.string a1, .string b1]] ++ capF) w' fun e w'' => e = .returned (.agg #[.string c, .string d]) ∧ Below w'.heap.size w' w'') (hfu : fu < 0) :
    Calls Try.prog 31 #[.agg #[.int .i64 sz, .string a0, .string b0, .string a1, .string b1, .bool dn, .int .i64 fu, .int .i64 kp], .int .i64 1, .func (.func F) #[] capF, .func (.func G) #[] capG] w fun e w' =>
      e = .returned (.tuple #[.agg #[.int .i64 sz, .string a0, .string b0, .string c, .string d, .bool dn, .int .i64 fu, .int .i64 kp], .int .i64 0]) ∧ Below w.heap.size w w' := by
  have HF := Lib.hid hF
  clear hF
  have hne : ¬ fu = 0 := by omega
  have hne' : (fu == 0) = false := by rw [beq_eq_false_iff_ne]; omega
  have hnp : ¬ 0 < fu := by omega
  · go_enter Try.func31, Try.ntmps31
    go_wp2_with fail
    refine (HF.out _ ((Boxes.old _ _).trans ((Boxes.old _ _).mono (Boxes.old _ _).size))).mono ?_
    rintro e w1 ⟨rfl, hw⟩
    have hB1 := ((Boxes.old _ _).trans ((Boxes.old _ _).mono (Boxes.old _ _).size)).trans (hw.mono ((Boxes.old _ _).trans ((Boxes.old _ _).mono (Boxes.old _ _).size)).size)
    have hD1 := Boxes.keep (Boxes.keep (Boxes.fresh _ _) (Boxes.old _ _)) hw
    have hR1 := Boxes.keep (Boxes.fresh1 _ _ _) hw
    have hD2 := set3of8 hD1 (.string c) (.string d)
    have hR2 := (other2 (w := w1) (b := w.heap.size) (c := w.heap.size + 1) 3 4 (.string c) (.string d) (by omega)).trans hR1
    have hB2 := (hB1.setCell (p := ⟨w.heap.size, 3, none⟩) (Nat.le_refl _) (.string c)).setCell (p := ⟨w.heap.size, 4, none⟩) (Nat.le_refl _) (.string d)
    obtain ⟨_, t1, t2, t3, t4, _, _, _⟩ := cells8 hD1
    have hf := thaw hD1
    go_upto_region 5 with fail
    obtain ⟨w2, hw2⟩ : ∃ w2, w2 = (w1.setCell ⟨w.heap.size, 3, none⟩ (.string c)).setCell ⟨w.heap.size, 4, none⟩ (.string d) := ⟨_, rfl⟩
    rw [← hw2] at hD2 hR2 hB2 ⊢
    clear hw2 t1 t2 t3 t4 hf hD1 hR1 hB1 hw
    obtain ⟨_, _, _, _, _, _, t6, t7⟩ := cells8 hD2
    have hf := thaw hD2
    have hR3 := hR2
    have hB3 := hB2
    have hnd : decide (0 < fu) = false := decide_eq_false (by omega)
    go_upto_region 7 with fail
    clear t6 t7
    have hB4 := Whole.row_below (g := w.heap.size + 1) hB3 (Nat.le_succ _) #[.int .i64 sz, .string a0, .string b0, .string c, .string d, .bool dn, .int .i64 fu, .int .i64 kp]
    have hE := setRow_heap w2 (w.heap.size + 1) _ #[.int .i64 sz, .string a0, .string b0, .string c, .string d, .bool dn, .int .i64 fu, .int .i64 kp] _ _ hR3
    clear hf
    go_wp2_with (first | (refine Whole.load w2 rfl _ 26 rfl w.heap.size _ _ rfl hD2 Try.underlying26 rfl szD ?_) | (refine Whole.store w2 rfl rfl _ _ 26 rfl (w.heap.size + 1) _ #[.int .i64 sz, .string a0, .string b0, .string c, .string d, .bool dn, .int .i64 fu, .int .i64 kp] rfl rfl hR3 szD rfl (one8 _ _ _ _ _ _ _ _) ?_))
    refine bodyPost_ret (v := .tuple #[.agg #[.int .i64 sz, .string a0, .string b0, .string c, .string d, .bool dn, .int .i64 fu, .int .i64 kp], .int .i64 0]) (result_two' rfl _ _ _ _ _ _ _ _ _ _ _ rfl hE rfl) rfl ⟨rfl, hB4⟩
set_option maxHeartbeats 800000 in
theorem do1_some (sz : Int) (a0 b0 a1 b1 c d : ByteArray) (dn : Bool) (fu kp : Int) (F G : FuncId) (capF capG : Array Value) (w : World)
    (hcF : ∀ (args : Array Value) (w : World), (callFunc F args).run Try.prog w = .ok (.enter F args) w)
    (hF : ∀ w', Below w.heap.size w w' → Calls Try.prog F (#[.agg #[.string a1, .string b1]] ++ capF) w' fun e w'' => e = .returned (.agg #[.string c, .string d]) ∧ Below w'.heap.size w' w'') (hfu : 0 < fu) (hfu1 : fu ≤ 9223372036854775807) :
    Calls Try.prog 31 #[.agg #[.int .i64 sz, .string a0, .string b0, .string a1, .string b1, .bool dn, .int .i64 fu, .int .i64 kp], .int .i64 1, .func (.func F) #[] capF, .func (.func G) #[] capG] w fun e w' =>
      e = .returned (.tuple #[.agg #[.int .i64 sz, .string a0, .string b0, .string c, .string d, .bool dn, .int .i64 (fu - 1), .int .i64 kp], .int .i64 0]) ∧ Below w.heap.size w w' := by
  have HF := Lib.hid hF
  clear hF
  have hne : ¬ fu = 0 := by omega
  have hne' : (fu == 0) = false := by rw [beq_eq_false_iff_ne]; omega
  · go_enter Try.func31, Try.ntmps31
    go_wp2_with fail
    refine (HF.out _ ((Boxes.old _ _).trans ((Boxes.old _ _).mono (Boxes.old _ _).size))).mono ?_
    rintro e w1 ⟨rfl, hw⟩
    have hB1 := ((Boxes.old _ _).trans ((Boxes.old _ _).mono (Boxes.old _ _).size)).trans (hw.mono ((Boxes.old _ _).trans ((Boxes.old _ _).mono (Boxes.old _ _).size)).size)
    have hD1 := Boxes.keep (Boxes.keep (Boxes.fresh _ _) (Boxes.old _ _)) hw
    have hR1 := Boxes.keep (Boxes.fresh1 _ _ _) hw
    have hD2 := set3of8 hD1 (.string c) (.string d)
    have hR2 := (other2 (w := w1) (b := w.heap.size) (c := w.heap.size + 1) 3 4 (.string c) (.string d) (by omega)).trans hR1
    have hB2 := (hB1.setCell (p := ⟨w.heap.size, 3, none⟩) (Nat.le_refl _) (.string c)).setCell (p := ⟨w.heap.size, 4, none⟩) (Nat.le_refl _) (.string d)
    obtain ⟨_, t1, t2, t3, t4, _, _, _⟩ := cells8 hD1
    have hf := thaw hD1
    go_upto_region 5 with fail
    obtain ⟨w2, hw2⟩ : ∃ w2, w2 = (w1.setCell ⟨w.heap.size, 3, none⟩ (.string c)).setCell ⟨w.heap.size, 4, none⟩ (.string d) := ⟨_, rfl⟩
    rw [← hw2] at hD2 hR2 hB2 ⊢
    clear hw2 t1 t2 t3 t4 hf hD1 hR1 hB1 hw
    obtain ⟨_, _, _, _, _, _, t6, t7⟩ := cells8 hD2
    have hf := thaw hD2
    have hD3 : _ = some (Obj.cells #[.int .i64 sz, .string a0, .string b0, .string c, .string d, .bool dn, .int .i64 (fu - 1), .int .i64 kp] 26) := heap_setCell_same _ w.heap.size 6 _ _ (.int .i64 (fu - 1)) hD2
    have hR3 := (heap_setCell_other w2 ⟨w.heap.size, 6, none⟩ (w.heap.size + 1) (.int .i64 (fu - 1)) (by simp)).trans hR2
    have hB3 := hB2.setCell (p := ⟨w.heap.size, 6, none⟩) (Nat.le_refl _) (.int .i64 (fu - 1))
    go_upto_region 7 with fail
    obtain ⟨w3, hw3⟩ : ∃ w3, w3 = w2.setCell ⟨w.heap.size, 6, none⟩ (.int .i64 (fu - 1)) := ⟨_, rfl⟩
    rw [← hw3] at hD3 hR3 hB3 ⊢
    clear hw3 t6 t7 hD2 hR2 hB2
    have hB4 := Whole.row_below (g := w.heap.size + 1) hB3 (Nat.le_succ _) #[.int .i64 sz, .string a0, .string b0, .string c, .string d, .bool dn, .int .i64 (fu - 1), .int .i64 kp]
    have hE := setRow_heap w3 (w.heap.size + 1) _ #[.int .i64 sz, .string a0, .string b0, .string c, .string d, .bool dn, .int .i64 (fu - 1), .int .i64 kp] _ _ hR3
    clear hf
    go_wp2_with (first | (refine Whole.load w3 rfl _ 26 rfl w.heap.size _ _ rfl hD3 Try.underlying26 rfl szD ?_) | (refine Whole.store w3 rfl rfl _ _ 26 rfl (w.heap.size + 1) _ #[.int .i64 sz, .string a0, .string b0, .string c, .string d, .bool dn, .int .i64 (fu - 1), .int .i64 kp] rfl rfl hR3 szD rfl (one8 _ _ _ _ _ _ _ _) ?_))
    refine bodyPost_ret (v := .tuple #[.agg #[.int .i64 sz, .string a0, .string b0, .string c, .string d, .bool dn, .int .i64 (fu - 1), .int .i64 kp], .int .i64 0]) (result_two' rfl _ _ _ _ _ _ _ _ _ _ _ rfl hE rfl) rfl ⟨rfl, hB4⟩
end Go.Proofs.Ytoomanlonhnleaa.Disk
