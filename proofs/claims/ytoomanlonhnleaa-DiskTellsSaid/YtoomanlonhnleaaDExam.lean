/- The chapter's examples, as demesnelaw09.examples asks them: they are so; of memory that was there nothing turns. Blocks, carried on. -/
import Derived.Test.YtoomanlonhnleaaDCut
namespace Go.Proofs.Ytoomanlonhnleaa.Disk
open Go.RowKit

/-- These blocks lie so. -/
def All (l : List (Nat × Obj)) (w : World) : Prop := ∀ x ∈ l, w.heap[x.1]? = some x.2
theorem All.nil (w : World) : All [] w := fun x h => by cases h
theorem All.get {l : List (Nat × Obj)} {w : World} (h : All l w) (n : Nat) {k : Nat} {o : Obj} (hx : l[n]? = some (k, o)) : w.heap[k]? = some o := h (k, o) (List.mem_of_getElem? hx)
theorem All.more {l : List (Nat × Obj)} {w w' : World} (h : All l w) (hb : Below w.heap.size w w') : All l w' := fun x hx => Boxes.keep (h x hx) hb
theorem All.cons {l : List (Nat × Obj)} {w : World} {k : Nat} {o : Obj} (hk : w.heap[k]? = some o) (h : All l w) : All ((k, o) :: l) w := fun x hx => by
  rcases List.mem_cons.1 hx with rfl | hx
  · exact hk
  · exact h x hx
theorem All.new {l : List (Nat × Obj)} {w : World} (h : All l w) (o : Obj) : All ((w.heap.size, o) :: l) (w.alloc o) := (h.more (Boxes.old w o)).cons (Boxes.fresh w o)
/-- A disk in a block. -/
abbrev box (d : Dk) : Obj := .cells (cellsD d) 26
theorem All.cell {l : List (Nat × Obj)} {w : World} (h : All l w) (n i : Nat) {k : Nat} {cs : Array Value} {t : TypeId} {v : Value} (hx : l[n]? = some (k, .cells cs t)) (hv : cs[i]? = some v) : w.cell? ⟨k, i, none⟩ = some v := Boxes.cell_at (h.get n hx) hv
theorem grows {a b c : World} (h : Below a.heap.size a b) (k : Below b.heap.size b c) : Below a.heap.size a c := h.trans (k.mono h.size)
theorem grows1 {a b c : World} {o : Obj} (h : Below a.heap.size a b) (k : Below (b.alloc o).heap.size (b.alloc o) c) : Below a.heap.size a c := grows (grows h (Boxes.old b o)) k

/-- Laid into a block that was just made. -/
theorem store_new {P : Program} (w : World) {ops : Array Oper} {rest : List Oper} {o : Oper} {a : Act} {Q : Exit → Act → World → Prop} (hgd : o.guard = none) (hd : o.dst = none) (p x : Operand) (t : TypeId) (ho : o.op = .store t p x)
    (c c' : Array Value) (hp : a.eval p = .pointer (some ⟨w.heap.size, 0, none⟩)) (hx : a.eval x = .agg c') (hi : (P.info? t).map (·.size) = some c'.size) (hs : c.size = c'.size) (h1 : c'.all (·.oneCell') = true)
    (h : wpList P ops Q rest a (w.alloc (.cells c' t))) : wpList P ops Q (o :: rest) a (w.alloc (.cells c t)) := by
  refine wpList_plain hgd fun K hK => ?_
  have hr := run_storeAt_new (P := P) w t c c' hi hs h1
  have he : a.put o.dst undef = a := by rw [hd]; rfl
  unfold Oper.wp execOp
  simp only [ho, Sem.run_bind, Sem.run_pure, Result.andThen_ok, hp, hx, hr]
  refine hK _ _ ?_
  rw [he]
  exact h

set_option maxHeartbeats 2000000 in
theorem exam_walk (N D C S A B X : Dk) (hC : C.down = true) (hS : S.f0.hard = ⟨#[97, 98, 99]⟩) (hB : B.down = true) (hB' : B.fuse = -1) (z0 : Int) (z1 z2 z3 z4 : ByteArray) (z6 z7 : Int) (w : World)
    (e1 : ∀ w, Calls Try.prog 26 #[.int .i64 9] w fun e w' => e = .returned (.agg (cellsD N)) ∧ Below w.heap.size w w')
    (e2 : ∀ w, Calls Try.prog 10 #[.agg (cellsD N), .int .i64 0, .string ⟨#[97, 98, 99]⟩] w fun e w' => e = .returned (.tuple #[.agg (cellsD D), .int .i64 0]) ∧ Below w.heap.size w w')
    (e3 : ∀ w, Calls Try.prog 16 #[.agg (cellsD D), .int .i64 2] w fun e w' => e = .returned (.agg (cellsD C)) ∧ Below w.heap.size w w')
    (e4 : ∀ w, Calls Try.prog 12 #[.agg (cellsD D), .int .i64 0] w fun e w' => e = .returned (.tuple #[.agg (cellsD S), .int .i64 0]) ∧ Below w.heap.size w w')
    (e5 : ∀ w, Calls Try.prog 10 #[.agg (cellsD D), .int .i64 1, .string ⟨#[49, 50, 51, 52, 53, 54, 55]⟩] w fun e w' => e = .returned (.tuple #[.agg (cellsD D), .int .i64 9]) ∧ Below w.heap.size w w')
    (e6 : ∀ w, Calls Try.prog 10 #[.agg (cellsD C), .int .i64 0, .string ⟨#[120]⟩] w fun e w' => e = .returned (.tuple #[.agg (cellsD C), .int .i64 12]) ∧ Below w.heap.size w w')
    (e7 : ∀ w, Calls Try.prog 18 #[.agg (cellsD S), .int .i64 0, .int .i64 1] w fun e w' => e = .returned (.agg (cellsD A)) ∧ Below w.heap.size w w')
    (e8 : ∀ w, Calls Try.prog 10 #[.agg (cellsD A), .int .i64 0, .string ⟨#[100, 101]⟩] w fun e w' => e = .returned (.tuple #[.agg (cellsD B), .int .i64 12]) ∧ Below w.heap.size w w')
    (e9 : ∀ w, Calls Try.prog 14 #[.agg (cellsD S), .int .i64 0, .int .i64 1] w fun e w' => e = .returned (.tuple #[.agg (cellsD X), .int .i64 0]) ∧ Below w.heap.size w w')
    (e10 : ∀ w, Calls Try.prog 12 #[.agg (cellsD D), .int .i64 2] w fun e w' => e = .returned (.tuple #[.agg (cellsD D), .int .i64 1]) ∧ Below w.heap.size w w')
    (e11 : ∀ w, Calls Try.prog 24 #[.agg (cellsD C), .int .i64 0] w fun e w' => e = .returned (.string ⟨#[97, 98]⟩) ∧ Below w.heap.size w w')
    (e12 : ∀ w, Calls Try.prog 24 #[.agg (cellsD B), .int .i64 0] w fun e w' => e = .returned (.string ⟨#[97, 98, 99, 100]⟩) ∧ Below w.heap.size w w')
    (e13 : ∀ w, Calls Try.prog 24 #[.agg (cellsD X), .int .i64 0] w fun e w' => e = .returned (.string ⟨#[97]⟩) ∧ Below w.heap.size w w')
    (e14 : ∀ w, Calls Try.prog 22 #[.agg (cellsD D)] w fun e w' => e = .returned (.int .i64 3) ∧ Below w.heap.size w w')
    (e15 : ∀ w, Calls Try.prog 20 #[.agg (cellsD C)] w fun e w' => e = .returned (.agg #[.int .i64 z0, .string z1, .string z2, .string z3, .string z4, .bool false, .int .i64 z6, .int .i64 z7]) ∧ Below w.heap.size w w') :
    Calls Try.prog 8 #[] w fun e w' => e = .returned (.bool true) ∧ Below w.heap.size w w' := by
  have H1 := Lib.hid e1
  have H2 := Lib.hid e2
  have H3 := Lib.hid e3
  have H4 := Lib.hid e4
  have H5 := Lib.hid e5
  have H6 := Lib.hid e6
  have H7 := Lib.hid e7
  have H8 := Lib.hid e8
  have H9 := Lib.hid e9
  have H10 := Lib.hid e10
  have H11 := Lib.hid e11
  have H12 := Lib.hid e12
  have H13 := Lib.hid e13
  have H14 := Lib.hid e14
  have H15 := Lib.hid e15
  clear e1 e2 e3 e4 e5 e6 e7 e8 e9 e10 e11 e12 e13 e14 e15
  go_enter Try.func8, Try.ntmps8
  go_wp2_with fail
  refine (H1.out _).mono ?_
  rintro e w1 ⟨rfl, hb1⟩
  go_wp2_with fail
  refine (H2.out _).mono ?_
  rintro e w2 ⟨rfl, hb2⟩
  have hA := (All.nil w2).new (box D)
  have hb := grows hb1 hb2
  clear hb1 hb2 H1 H2
  go_wp2_with (first | (refine store_new w2 rfl rfl _ _ 26 rfl _ (cellsD D) rfl rfl szD rfl (one_cells D) ?_) | (refine Whole.load _ rfl _ 26 rfl _ _ _ rfl (hA.get 0 rfl) Try.underlying26 rfl szD ?_))
  refine (H3.out _).mono ?_
  rintro e w3 ⟨rfl, hb3⟩
  have hA3 := (hA.more hb3).new (box C)
  have hbb := grows1 hb hb3
  clear hA hb hb3 H3
  go_wp2_with (first | (refine store_new w3 rfl rfl _ _ 26 rfl _ (cellsD C) rfl rfl szD rfl (one_cells C) ?_) | (refine Whole.load _ rfl _ 26 rfl _ _ _ rfl (hA3.get 1 rfl) Try.underlying26 rfl szD ?_))
  refine (H4.out _).mono ?_
  rintro e w4 ⟨rfl, hb4⟩
  have hA4 := (hA3.more hb4).new (box S)
  have hb := grows1 hbb hb4
  clear hA3 hbb hb4 H4
  go_wp2_with (first | (refine store_new w4 rfl rfl _ _ 26 rfl _ (cellsD S) rfl rfl szD rfl (one_cells S) ?_) | (refine Whole.load _ rfl _ 26 rfl _ _ _ rfl (hA4.get 2 rfl) Try.underlying26 rfl szD ?_))
  refine (H5.out _).mono ?_
  rintro e w5 ⟨rfl, hb5⟩
  have hA5 := (hA4.more hb5).new (box D)
  have hbb := grows1 hb hb5
  clear hA4 hb hb5 H5
  go_wp2_with (first | (refine store_new w5 rfl rfl _ _ 26 rfl _ (cellsD D) rfl rfl szD rfl (one_cells D) ?_) | (refine Whole.load _ rfl _ 26 rfl _ _ _ rfl (hA5.get 2 rfl) Try.underlying26 rfl szD ?_))
  refine (H6.out _).mono ?_
  rintro e w6 ⟨rfl, hb6⟩
  have hA6 := (hA5.more hb6).new (box C)
  have hb := grows1 hbb hb6
  clear hA5 hbb hb6 H6
  go_wp2_with (first | (refine store_new w6 rfl rfl _ _ 26 rfl _ (cellsD C) rfl rfl szD rfl (one_cells C) ?_) | (refine Whole.load _ rfl _ 26 rfl _ _ _ rfl (hA6.get 2 rfl) Try.underlying26 rfl szD ?_))
  refine (H7.out _).mono ?_
  rintro e w7 ⟨rfl, hb7⟩
  have hA7 := hA6.more hb7
  have hbb := grows1 hb hb7
  clear hA6 hb hb7 H7
  go_wp2_with fail
  refine (H8.out _).mono ?_
  rintro e w8 ⟨rfl, hb8⟩
  have hA8 := (hA7.more hb8).new (box B)
  have hb := grows hbb hb8
  clear hA7 hbb hb8 H8
  go_wp2_with (first | (refine store_new w8 rfl rfl _ _ 26 rfl _ (cellsD B) rfl rfl szD rfl (one_cells B) ?_) | (refine Whole.load _ rfl _ 26 rfl _ _ _ rfl (hA8.get 3 rfl) Try.underlying26 rfl szD ?_))
  refine (H9.out _).mono ?_
  rintro e w9 ⟨rfl, hb9⟩
  have hA9 := (hA8.more hb9).new (box X)
  have hbb := grows1 hb hb9
  clear hA8 hb hb9 H9
  go_wp2_with (first | (refine store_new w9 rfl rfl _ _ 26 rfl _ (cellsD X) rfl rfl szD rfl (one_cells X) ?_) | (refine Whole.load _ rfl _ 26 rfl _ _ _ rfl (hA9.get 6 rfl) Try.underlying26 rfl szD ?_))
  refine (H10.out _).mono ?_
  rintro e w10 ⟨rfl, hb10⟩
  have hA10 := (hA9.more hb10).new (box D)
  have hb := grows1 hbb hb10
  clear hA9 hbb hb10 H10
  go_upto_region 9 with (refine store_new w10 rfl rfl _ _ 26 rfl _ (cellsD D) rfl rfl szD rfl (one_cells D) ?_)
  obtain ⟨W10, hW10⟩ : ∃ W10, W10 = w10.alloc (box D) := ⟨_, rfl⟩
  have hb10 := grows hb (Boxes.old w10 (box D))
  rw [← hW10] at hA10 hb10 ⊢
  clear hW10 hb
  have hb := hb10
  clear hb10
  have c5 := Quiet.cell (Boxes.lt_of (hA10.get 6 rfl)) ((hA10.cell 6 5 rfl (v := .bool C.down) rfl).trans (by rw [hC]))
  have s1 := Quiet.cell (Boxes.lt_of (hA10.get 5 rfl)) ((hA10.cell 5 1 rfl (v := .string S.f0.hard) rfl).trans (by rw [hS]))
  have b5 := Quiet.cell (Boxes.lt_of (hA10.get 2 rfl)) ((hA10.cell 2 5 rfl (v := .bool B.down) rfl).trans (by rw [hB]))
  have b6 := Quiet.cell (Boxes.lt_of (hA10.get 2 rfl)) ((hA10.cell 2 6 rfl (v := .int .i64 B.fuse) rfl).trans (by rw [hB']))
  have fld : ∀ w, (Instr.field 26 (.agg #[.int .i64 z0, .string z1, .string z2, .string z3, .string z4, .bool false, .int .i64 z6, .int .i64 z7]) 2).run Try.prog w = .ok (.bool false) w := fun _ => by kernel_rfl
  refine Whole.regionL ?_
  simp only [List.append]
  repeat (first | go_big_quiet_skip | (go_big_quiet_want; first | (refine Whole.quiet_load _ 26 rfl _ _ _ rfl (hA10.get 6 rfl) Try.underlying26 rfl szD ?_; simp only [Act.put, List.setIfInBounds_toArray, List.set_cons_succ, List.set_cons_zero]; go_big_quiet_on) | (refine Whole.quiet_load _ 26 rfl _ _ _ rfl (hA10.get 2 rfl) Try.underlying26 rfl szD ?_; simp only [Act.put, List.setIfInBounds_toArray, List.set_cons_succ, List.set_cons_zero]; go_big_quiet_on) | (refine Whole.quiet_load _ 26 rfl _ _ _ rfl (hA10.get 1 rfl) Try.underlying26 rfl szD ?_; simp only [Act.put, List.setIfInBounds_toArray, List.set_cons_succ, List.set_cons_zero]; go_big_quiet_on) | (refine Whole.quiet_load _ 26 rfl _ _ _ rfl (hA10.get 7 rfl) Try.underlying26 rfl szD ?_; simp only [Act.put, List.setIfInBounds_toArray, List.set_cons_succ, List.set_cons_zero]; go_big_quiet_on) | (go_big_quiet_op; first | go_big_quiet_on | go_big_quiet_call ((first | (go_at_call 24; first | (with_reducible exact Quiet.calls (H11.out _)) | (with_reducible exact Quiet.calls (H12.out _)) | (with_reducible exact Quiet.calls (H13.out _))) | (go_at_call 22; (with_reducible exact Quiet.calls (H14.out _))) | (go_at_call 20; (with_reducible exact Quiet.calls (H15.out _))))))))
  refine wpQuiet_nil ?_
  rintro _ ⟨pq, rfl⟩
  have hbb := grows hb pq.below
  clear fld c5 s1 b5 b6 hA10 hb H11 H12 H13 H14 H15
  go_wp2
  go_ret
  exact ⟨rfl, hbb⟩
end Go.Proofs.Ytoomanlonhnleaa.Disk
