/- Proved: demesnelaw09.DiskTells answers true for every disk, file, text and numbers, and leaves them as they were. No condition. -/
import Derived.Test.YtoomanlonhnleaaDRefD
import Derived.Test.YtoomanlonhnleaaDRefE
import Derived.Test.YtoomanlonhnleaaEnd
namespace Go.Proofs.Ytoomanlonhnleaa.diskTells
open Go.ChangeShapes Go.WideShapes Go.ChangeAt Go.RowKit
open Go.Proofs.Ytoomanlonhnleaa.Disk

theorem neq_r (x : Dk) (w : World) : (binOp .neq 31 (.agg (cellsD x)) (.agg (cellsD x))).run Try.prog w = .ok (.bool false) w := neq_disk_r x w
theorem eql_r (x : Dk) (w : World) : (binOp .eql 31 (.agg (cellsD x)) (.agg (cellsD x))).run Try.prog w = .ok (.bool true) w := eql_disk_r x w
theorem refD_at (x : Dk) (w : World) : Calls Try.prog 9 #[.agg (cellsD x)] w fun e w' => e = .returned (.agg (cellsD x)) ∧ Below w.heap.size w w' := refD_any x w
/-- Both answers of all that the law asks. -/
theorem both (d : Dk) (hd : d.Fair) (hz : used d ≤ 562949953421312) (f : Int) (s : ByteArray) (hs : s.size ≤ 140737488351232) (n : Int) (hn1 : n ≤ 9223372036854775807) (keep : Int) :
    ∃ (A Y C K M S N : Dk) (e g h : Int) (u : Nat) (t : ByteArray),
    (∀ w, Calls Try.prog 10 #[.agg (cellsD d), .int .i64 f, .string s] w fun r w' => r = .returned (.tuple #[.agg (cellsD A), .int .i64 e]) ∧ Below w.heap.size w w') ∧
    (∀ w, Calls Try.prog 11 #[.agg (cellsD d), .int .i64 f, .string s] w fun r w' => r = .returned (.tuple #[.agg (cellsD A), .int .i64 e]) ∧ Below w.heap.size w w') ∧
    (∀ w, Calls Try.prog 12 #[.agg (cellsD d), .int .i64 f] w fun r w' => r = .returned (.tuple #[.agg (cellsD Y), .int .i64 g]) ∧ Below w.heap.size w w') ∧
    (∀ w, Calls Try.prog 13 #[.agg (cellsD d), .int .i64 f] w fun r w' => r = .returned (.tuple #[.agg (cellsD Y), .int .i64 g]) ∧ Below w.heap.size w w') ∧
    (∀ w, Calls Try.prog 14 #[.agg (cellsD d), .int .i64 f, .int .i64 n] w fun r w' => r = .returned (.tuple #[.agg (cellsD C), .int .i64 h]) ∧ Below w.heap.size w w') ∧
    (∀ w, Calls Try.prog 15 #[.agg (cellsD d), .int .i64 f, .int .i64 n] w fun r w' => r = .returned (.tuple #[.agg (cellsD C), .int .i64 h]) ∧ Below w.heap.size w w') ∧
    (∀ w, Calls Try.prog 16 #[.agg (cellsD d), .int .i64 keep] w fun r w' => r = .returned (.agg (cellsD K)) ∧ Below w.heap.size w w') ∧
    (∀ w, Calls Try.prog 17 #[.agg (cellsD d), .int .i64 keep] w fun r w' => r = .returned (.agg (cellsD K)) ∧ Below w.heap.size w w') ∧
    (∀ w, Calls Try.prog 18 #[.agg (cellsD d), .int .i64 n, .int .i64 keep] w fun r w' => r = .returned (.agg (cellsD M)) ∧ Below w.heap.size w w') ∧
    (∀ w, Calls Try.prog 19 #[.agg (cellsD d), .int .i64 n, .int .i64 keep] w fun r w' => r = .returned (.agg (cellsD M)) ∧ Below w.heap.size w w') ∧
    (∀ w, Calls Try.prog 20 #[.agg (cellsD d)] w fun r w' => r = .returned (.agg (cellsD S)) ∧ Below w.heap.size w w') ∧
    (∀ w, Calls Try.prog 21 #[.agg (cellsD d)] w fun r w' => r = .returned (.agg (cellsD S)) ∧ Below w.heap.size w w') ∧
    (∀ w, Calls Try.prog 22 #[.agg (cellsD d)] w fun r w' => r = .returned (.int .i64 u) ∧ Below w.heap.size w w') ∧
    (∀ w, Calls Try.prog 23 #[.agg (cellsD d)] w fun r w' => r = .returned (.int .i64 u) ∧ Below w.heap.size w w') ∧
    (∀ w, Calls Try.prog 24 #[.agg (cellsD d), .int .i64 f] w fun r w' => r = .returned (.string t) ∧ Below w.heap.size w w') ∧
    (∀ w, Calls Try.prog 25 #[.agg (cellsD d), .int .i64 f] w fun r w' => r = .returned (.string t) ∧ Below w.heap.size w w') ∧
    (∀ w, Calls Try.prog 26 #[.int .i64 n] w fun r w' => r = .returned (.agg (cellsD N)) ∧ Below w.heap.size w w') ∧
    (∀ w, Calls Try.prog 27 #[.int .i64 n] w fun r w' => r = .returned (.agg (cellsD N)) ∧ Below w.heap.size w w') :=
  ⟨(write d f s).1, (sync d f).1, (cut d f n).1, crash d keep, arm d n keep, Disk.start d, new n, (write d f s).2, (sync d f).2, (cut d f n).2, used d, read d f,
    fun w => write_any d hd f s (by omega) w, fun w => write_ref d hd f s (by omega) w, fun w => sync_any d hd f (by omega) w, fun w => sync_ref d hd f (by omega) w, fun w => cut_any d hd f n hn1 (by omega) w, fun w => cut_ref d hd f n hn1 (by omega) w,
    fun w => crash_any d (by omega) keep w, fun w => crash_ref d (by omega) keep w, fun w => arm_any d n keep w, fun w => arm_ref d n keep w, fun w => start_any d w, fun w => start_ref d w, fun w => used_any d (by omega) w, fun w => used_ref d (by omega) w,
    fun w => read_any d (by unfold used at hz; omega) f w, fun w => read_ref d (by unfold used at hz; omega) f w, fun w => new_any n w, fun w => new_ref n w⟩
set_option maxRecDepth 100000 in
set_option maxHeartbeats 2000000 in
theorem walk0 (d : Dk) (f : Int) (s : ByteArray) (n keep : Int) (w : World) (A Y C K M S N : Dk) (e g h : Int) (u : Nat) (t : ByteArray)
    (cWriteP : ∀ w, Calls Try.prog 10 #[.agg (cellsD d), .int .i64 f, .string s] w fun r w' => r = .returned (.tuple #[.agg (cellsD A), .int .i64 e]) ∧ Below w.heap.size w w')
    (cWriteR : ∀ w, Calls Try.prog 11 #[.agg (cellsD d), .int .i64 f, .string s] w fun r w' => r = .returned (.tuple #[.agg (cellsD A), .int .i64 e]) ∧ Below w.heap.size w w')
    (cSyncP : ∀ w, Calls Try.prog 12 #[.agg (cellsD d), .int .i64 f] w fun r w' => r = .returned (.tuple #[.agg (cellsD Y), .int .i64 g]) ∧ Below w.heap.size w w')
    (cSyncR : ∀ w, Calls Try.prog 13 #[.agg (cellsD d), .int .i64 f] w fun r w' => r = .returned (.tuple #[.agg (cellsD Y), .int .i64 g]) ∧ Below w.heap.size w w')
    (cCutP : ∀ w, Calls Try.prog 14 #[.agg (cellsD d), .int .i64 f, .int .i64 n] w fun r w' => r = .returned (.tuple #[.agg (cellsD C), .int .i64 h]) ∧ Below w.heap.size w w')
    (cCutR : ∀ w, Calls Try.prog 15 #[.agg (cellsD d), .int .i64 f, .int .i64 n] w fun r w' => r = .returned (.tuple #[.agg (cellsD C), .int .i64 h]) ∧ Below w.heap.size w w')
    (cCrashP : ∀ w, Calls Try.prog 16 #[.agg (cellsD d), .int .i64 keep] w fun r w' => r = .returned (.agg (cellsD K)) ∧ Below w.heap.size w w')
    (cCrashR : ∀ w, Calls Try.prog 17 #[.agg (cellsD d), .int .i64 keep] w fun r w' => r = .returned (.agg (cellsD K)) ∧ Below w.heap.size w w')
    (cArmP : ∀ w, Calls Try.prog 18 #[.agg (cellsD d), .int .i64 n, .int .i64 keep] w fun r w' => r = .returned (.agg (cellsD M)) ∧ Below w.heap.size w w')
    (cArmR : ∀ w, Calls Try.prog 19 #[.agg (cellsD d), .int .i64 n, .int .i64 keep] w fun r w' => r = .returned (.agg (cellsD M)) ∧ Below w.heap.size w w')
    (cStartP : ∀ w, Calls Try.prog 20 #[.agg (cellsD d)] w fun r w' => r = .returned (.agg (cellsD S)) ∧ Below w.heap.size w w')
    (cStartR : ∀ w, Calls Try.prog 21 #[.agg (cellsD d)] w fun r w' => r = .returned (.agg (cellsD S)) ∧ Below w.heap.size w w')
    (cUsedP : ∀ w, Calls Try.prog 22 #[.agg (cellsD d)] w fun r w' => r = .returned (.int .i64 u) ∧ Below w.heap.size w w')
    (cUsedR : ∀ w, Calls Try.prog 23 #[.agg (cellsD d)] w fun r w' => r = .returned (.int .i64 u) ∧ Below w.heap.size w w')
    (cReadP : ∀ w, Calls Try.prog 24 #[.agg (cellsD d), .int .i64 f] w fun r w' => r = .returned (.string t) ∧ Below w.heap.size w w')
    (cReadR : ∀ w, Calls Try.prog 25 #[.agg (cellsD d), .int .i64 f] w fun r w' => r = .returned (.string t) ∧ Below w.heap.size w w')
    (cNewP : ∀ w, Calls Try.prog 26 #[.int .i64 n] w fun r w' => r = .returned (.agg (cellsD N)) ∧ Below w.heap.size w w')
    (cNewR : ∀ w, Calls Try.prog 27 #[.int .i64 n] w fun r w' => r = .returned (.agg (cellsD N)) ∧ Below w.heap.size w w') :
    Calls Try.prog 3 #[.agg (cellsD d), .int .i64 f, .string s, .int .i64 n, .int .i64 keep] w fun r w' => r = .returned (.bool true) ∧ Below w.heap.size w w' := by
  have HWriteP := Lib.hid cWriteP
  have HWriteR := Lib.hid cWriteR
  have HSyncP := Lib.hid cSyncP
  have HSyncR := Lib.hid cSyncR
  have HCutP := Lib.hid cCutP
  have HCutR := Lib.hid cCutR
  have HCrashP := Lib.hid cCrashP
  have HCrashR := Lib.hid cCrashR
  have HArmP := Lib.hid cArmP
  have HArmR := Lib.hid cArmR
  have HStartP := Lib.hid cStartP
  have HStartR := Lib.hid cStartR
  have HUsedP := Lib.hid cUsedP
  have HUsedR := Lib.hid cUsedR
  have HReadP := Lib.hid cReadP
  have HReadR := Lib.hid cReadR
  have HNewP := Lib.hid cNewP
  have HNewR := Lib.hid cNewR
  clear cWriteP cWriteR cSyncP cSyncR cCutP cCutR cCrashP cCrashR cArmP cArmR cStartP cStartR cUsedP cUsedR cReadP cReadR cNewP cNewR
  go_enter Try.func3, Try.ntmps3
  go_upto_region 1 with fail
  have hA0 := (All.nil w).new (box d)
  have hB0 := Boxes.old w (box d)
  obtain ⟨W0, hW0⟩ : ∃ W0, W0 = w.alloc (box d) := ⟨_, rfl⟩
  rw [← hW0] at hA0 hB0 ⊢
  clear hW0
  go_wp2_with fail
  refine (examples_any _).mono ?_
  rintro r w1 ⟨rfl, b1⟩
  have hA1 := hA0.more b1
  have hB1 := grows hB0 b1
  clear hA0 hB0 b1
  go_wp2_with (refine Whole.load w1 rfl _ 26 rfl _ _ _ rfl (hA1.get 0 rfl) Try.underlying26 rfl szD ?_)
  refine (refD_at d _).mono ?_
  rintro r w2 ⟨rfl, b2⟩
  have hA2 := (hA1.more b2).new (boxR d)
  have hB2 := grows hB1 b2
  clear hA1 hB1 b2
  go_wp2_with (first | (refine store_new w2 rfl rfl _ _ 31 rfl _ (cellsD d) rfl rfl szR rfl (one_cells d) ?_) | (refine Whole.load _ rfl _ 26 rfl _ _ _ rfl (hA2.get 1 rfl) Try.underlying26 rfl szD ?_))
  refine (HWriteP.out _).mono ?_
  rintro r w3 ⟨rfl, b3⟩
  have hA3 := (hA2.more b3).new (box A)
  have hB3 := grows1 hB2 b3
  clear hA2 hB2 b3 HWriteP
  go_wp2_with (first | (refine store_new w3 rfl rfl _ _ 26 rfl _ (cellsD A) rfl rfl szD rfl (one_cells A) ?_) | (refine Whole.load _ rfl _ 31 rfl _ _ _ rfl (hA3.get 1 rfl) Try.underlying31 rfl szR ?_))
  refine (HWriteR.out _).mono ?_
  rintro r w4 ⟨rfl, b4⟩
  have hA4 := (hA3.more b4).new (boxR A)
  have hB4 := grows1 hB3 b4
  clear hA3 hB3 b4 HWriteR
  go_wp2_with (first | (refine store_new w4 rfl rfl _ _ 31 rfl _ (cellsD A) rfl rfl szR rfl (one_cells A) ?_) | (refine Whole.load _ rfl _ 26 rfl _ _ _ rfl (hA4.get 3 rfl) Try.underlying26 rfl szD ?_))
  refine (HSyncP.out _).mono ?_
  rintro r w5 ⟨rfl, b5⟩
  have hA5 := (hA4.more b5).new (box Y)
  have hB5 := grows1 hB4 b5
  clear hA4 hB4 b5 HSyncP
  go_wp2_with (first | (refine store_new w5 rfl rfl _ _ 26 rfl _ (cellsD Y) rfl rfl szD rfl (one_cells Y) ?_) | (refine Whole.load _ rfl _ 31 rfl _ _ _ rfl (hA5.get 3 rfl) Try.underlying31 rfl szR ?_))
  refine (HSyncR.out _).mono ?_
  rintro r w6 ⟨rfl, b6⟩
  have hA6 := (hA5.more b6).new (boxR Y)
  have hB6 := grows1 hB5 b6
  clear hA5 hB5 b6 HSyncR
  go_wp2_with (first | (refine store_new w6 rfl rfl _ _ 31 rfl _ (cellsD Y) rfl rfl szR rfl (one_cells Y) ?_) | (refine Whole.load _ rfl _ 26 rfl _ _ _ rfl (hA6.get 5 rfl) Try.underlying26 rfl szD ?_))
  refine (HCutP.out _).mono ?_
  rintro r w7 ⟨rfl, b7⟩
  have hA7 := (hA6.more b7).new (box C)
  have hB7 := grows1 hB6 b7
  clear hA6 hB6 b7 HCutP
  go_wp2_with (first | (refine store_new w7 rfl rfl _ _ 26 rfl _ (cellsD C) rfl rfl szD rfl (one_cells C) ?_) | (refine Whole.load _ rfl _ 31 rfl _ _ _ rfl (hA7.get 5 rfl) Try.underlying31 rfl szR ?_))
  refine (HCutR.out _).mono ?_
  rintro r w8 ⟨rfl, b8⟩
  have hA8 := (hA7.more b8).new (boxR C)
  have hB8 := grows1 hB7 b8
  clear hA7 hB7 b8 HCutR
  go_upto_region 11 with (refine store_new w8 rfl rfl _ _ 31 rfl _ (cellsD C) rfl rfl szR rfl (one_cells C) ?_)
  have hBx := grows hB8 (Boxes.old w8 (boxR C))
  obtain ⟨W, hW⟩ : ∃ W, W = w8.alloc (boxR C) := ⟨_, rfl⟩
  rw [← hW] at hA8 hBx ⊢
  clear hW hB8
  refine Quiet.region (by kernel_rfl) (by kernel_rfl) ?_
  try simp only [List.append]
  repeat (first | go_big_quiet_skip | (go_big_quiet_want; first | (refine Whole.quiet_load _ 26 rfl _ _ _ rfl (hA8.get 5 rfl) Try.underlying26 rfl szD ?_; simp only [Act.put, List.setIfInBounds_toArray, List.set_cons_succ, List.set_cons_zero]; go_big_quiet_on) | (refine Whole.quiet_load _ 31 rfl _ _ _ rfl (hA8.get 4 rfl) Try.underlying31 rfl szR ?_; simp only [Act.put, List.setIfInBounds_toArray, List.set_cons_succ, List.set_cons_zero]; go_big_quiet_on) | (refine Whole.quiet_load _ 26 rfl _ _ _ rfl (hA8.get 3 rfl) Try.underlying26 rfl szD ?_; simp only [Act.put, List.setIfInBounds_toArray, List.set_cons_succ, List.set_cons_zero]; go_big_quiet_on) | (refine Whole.quiet_load _ 31 rfl _ _ _ rfl (hA8.get 2 rfl) Try.underlying31 rfl szR ?_; simp only [Act.put, List.setIfInBounds_toArray, List.set_cons_succ, List.set_cons_zero]; go_big_quiet_on) | (refine Whole.quiet_load _ 26 rfl _ _ _ rfl (hA8.get 1 rfl) Try.underlying26 rfl szD ?_; simp only [Act.put, List.setIfInBounds_toArray, List.set_cons_succ, List.set_cons_zero]; go_big_quiet_on) | (refine Whole.quiet_load _ 31 rfl _ _ _ rfl (hA8.get 0 rfl) Try.underlying31 rfl szR ?_; simp only [Act.put, List.setIfInBounds_toArray, List.set_cons_succ, List.set_cons_zero]; go_big_quiet_on) | (refine Whole.quiet_bin .neq _ _ 31 31 rfl (.bool false) _ _ rfl rfl (by kernel_rfl) (neq_r _) ?_; simp only [Act.put, List.setIfInBounds_toArray, List.set_cons_succ, List.set_cons_zero]; go_big_quiet_on) | (go_big_quiet_op; first | go_big_quiet_on | go_big_quiet_call ((go_at_call 9; first | (with_reducible exact Quiet.calls (refD_at _ _)))))))
  refine wpQuiet_nil ?_
  rintro _ ⟨pq, rfl⟩
  have hAz := hA8.more pq.below
  have hBz := grows hBx pq.below
  generalize pq.world = wq at hAz hBz ⊢
  clear hA8 hBx
  go_upto_region 13 with fail
  refine Quiet.region (by kernel_rfl) (by kernel_rfl) ?_
  try simp only [List.append]
  repeat (first | go_big_quiet_skip | (go_big_quiet_want; first | (refine Whole.quiet_load _ 26 rfl _ _ _ rfl (hAz.get 7 rfl) Try.underlying26 rfl szD ?_; simp only [Act.put, List.setIfInBounds_toArray, List.set_cons_succ, List.set_cons_zero]; go_big_quiet_on) | (refine Whole.quiet_load _ 31 rfl _ _ _ rfl (hAz.get 6 rfl) Try.underlying31 rfl szR ?_; simp only [Act.put, List.setIfInBounds_toArray, List.set_cons_succ, List.set_cons_zero]; go_big_quiet_on) | (refine Whole.quiet_bin .eql _ _ 31 31 rfl (.bool true) _ _ rfl rfl (by kernel_rfl) (eql_r _) ?_; simp only [Act.put, List.setIfInBounds_toArray, List.set_cons_succ, List.set_cons_zero]; go_big_quiet_on) | (go_big_quiet_op; first | go_big_quiet_on | go_big_quiet_call ((first | (go_at_call 9; first | (with_reducible exact Quiet.calls (refD_at _ _))) | (go_at_call 16; first | (with_reducible exact Quiet.calls (HCrashP.out _))) | (go_at_call 17; first | (with_reducible exact Quiet.calls (HCrashR.out _))) | (go_at_call 18; first | (with_reducible exact Quiet.calls (HArmP.out _))) | (go_at_call 19; first | (with_reducible exact Quiet.calls (HArmR.out _))) | (go_at_call 20; first | (with_reducible exact Quiet.calls (HStartP.out _))) | (go_at_call 21; first | (with_reducible exact Quiet.calls (HStartR.out _))) | (go_at_call 22; first | (with_reducible exact Quiet.calls (HUsedP.out _))) | (go_at_call 23; first | (with_reducible exact Quiet.calls (HUsedR.out _))) | (go_at_call 24; first | (with_reducible exact Quiet.calls (HReadP.out _))) | (go_at_call 25; first | (with_reducible exact Quiet.calls (HReadR.out _))) | (go_at_call 26; first | (with_reducible exact Quiet.calls (HNewP.out _))) | (go_at_call 27; first | (with_reducible exact Quiet.calls (HNewR.out _))))))))
  refine wpQuiet_nil ?_
  rintro _ ⟨pq, rfl⟩
  have hbb := grows hBz pq.below
  clear hAz hBz HCrashP HCrashR HArmP HArmR HStartP HStartR HUsedP HUsedR HReadP HReadR HNewP HNewR
  go_wp2
  go_ret
  exact ⟨rfl, hbb⟩
theorem walk (d : Dk) (hd : d.Fair) (hz : d.f0.hard.size ≤ 140737488351232 ∧ d.f0.soft.size ≤ 140737488351232 ∧ d.f1.hard.size ≤ 140737488351232 ∧ d.f1.soft.size ≤ 140737488351232) (f : Int) (_ : -9223372036854775808 ≤ f) (_ : f ≤ 9223372036854775807) (s : ByteArray) (hs : s.size ≤ 140737488351232) (n : Int) (_ : -9223372036854775808 ≤ n) (hn1 : n ≤ 9223372036854775807) (keep : Int) (_ : -9223372036854775808 ≤ keep) (_ : keep ≤ 9223372036854775807) (w : World) :
    Calls Try.prog 3 #[valD d, .int .i64 f, .string s, .int .i64 n, .int .i64 keep] w fun r w' => r = .returned (.bool true) ∧ Below w.heap.size w w' := by
  obtain ⟨A, Y, C, K, M, S, N, e, g, h, u, t, a0, a1, a2, a3, a4, a5, a6, a7, a8, a9, a10, a11, a12, a13, a14, a15, a16, a17⟩ := both d hd (by unfold used Fl.size; omega) f s hs n hn1 keep
  exact walk0 d f s n keep w A Y C K M S N e g h u t a0 a1 a2 a3 a4 a5 a6 a7 a8 a9 a10 a11 a12 a13 a14 a15 a16 a17

set_option maxRecDepth 100000 in
theorem lifted (os : Os) (started : os.Started) (H : Type) (enc : TypeId × Value → H) :
    ReturnsInHanded {} Try.checked os 3 .any (Rows.diskTellsSpec.pre6 enc Try.prog Try.f3 Rows.diskTellsRow.domain false) (Rows.diskTellsSpec.post enc Try.prog Try.f3 false true false false) := by
  refine returnsInHanded_of_change_sized (C := Try.checked) Ends.own started (by kernel_rfl) Try.func3
    (ChangeSpec.witness6 (enc := enc) (C := Try.checked) false ⟨#[], #[.agg #[.int .i64 0, .string ⟨#[]⟩, .string ⟨#[]⟩, .string ⟨#[]⟩, .string ⟨#[]⟩, .bool false, .int .i64 0, .int .i64 0], .int .i64 0, .string ⟨#[]⟩, .int .i64 0, .int .i64 0], []⟩ 8 (by kernel_rfl) (by kernel_rfl) (by kernel_rfl) (by kernel_rfl)) ?_
  intro W base args ds gs before hval0 hW _ hsz0 _
  have hval : ∀ (j : Nat) t v, Try.f3.params[j]? = some t → args[j]? = some v → Value.okWide Try.prog W .any base t v := hval0
  have hsz : (DataW.weightsEach Try.prog (Try.f3.params.toList ++ Rows.diskTellsSpec.plain.varTypes Try.prog) (ds ++ gs)).all (· ≤ reachBytes) = true := hsz0
  have hW' := hW
  obtain ⟨p, q, hA0, hV, rfl, hfz, hnd⟩ := hW
  have hA : DataW.TrodAll enc Try.prog W 0 (fun _ => true) true Try.f3.params.toList args.toList ds p := hA0
  rw [Try.params3] at hA hval hsz
  obtain ⟨v0, vs0, d0, ds0, p0, q0, hargs, rfl, rfl, h0, r0⟩ := trodAll_cons hA
  obtain ⟨v1, vs1, d1, ds1, p1, q1, rfl, rfl, rfl, h1, r1⟩ := trodAll_cons r0
  obtain ⟨v2, vs2, d2, ds2, p2, q2, rfl, rfl, rfl, h2, r2⟩ := trodAll_cons r1
  obtain ⟨v3, vs3, d3, ds3, p3, q3, rfl, rfl, rfl, h3, r3⟩ := trodAll_cons r2
  obtain ⟨v4, vs4, d4, ds4, p4, q4, rfl, rfl, rfl, h4, r4⟩ := trodAll_cons r3
  obtain ⟨rfl, rfl, rfl⟩ := trodAll_nil r4
  obtain rfl : args = #[v0, v1, v2, v3, v4] := by cases args; simp_all
  obtain ⟨rfl, rfl⟩ := trodVars_none hV
  obtain ⟨a0, rfl, rfl, w0⟩ := Disk.open_disk (fe := 23) (f0 := (Try.prog.fieldsOf 26)[0]!) (f1 := (Try.prog.fieldsOf 26)[1]!) (f2 := (Try.prog.fieldsOf 26)[2]!) (f3 := (Try.prog.fieldsOf 26)[3]!) (f4 := (Try.prog.fieldsOf 26)[4]!) (g0 := (Try.prog.fieldsOf 23)[0]!) (g1 := (Try.prog.fieldsOf 23)[1]!) (by kernel_rfl) (by kernel_rfl) (by kernel_rfl) (by kernel_rfl) (by kernel_rfl) (by kernel_rfl) (by kernel_rfl) (by kernel_rfl) (by kernel_rfl) (by kernel_rfl) (by kernel_rfl) (by kernel_rfl) (by kernel_rfl) (by kernel_rfl) (by kernel_rfl) (by kernel_rfl) (by kernel_rfl) (by kernel_rfl) (by kernel_rfl) (by kernel_rfl) (by kernel_rfl) (by kernel_rfl) (by kernel_rfl) (by kernel_rfl) (by kernel_rfl) (hval 0 26 v0 rfl rfl) h0
  have q0 : ∀ n ∈ DataW.weights Try.prog 26 (Disk.dataD a0 : DataW H), n ≤ 140737488351232 := fun n hn => of_decide_eq_true (List.all_eq_true.1 hsz n (DataW.weights_mem_each (j := 0) rfl rfl n hn))
  have b0 := Disk.dataD_reach (fe := 23) (f0 := (Try.prog.fieldsOf 26)[0]!) (f1 := (Try.prog.fieldsOf 26)[1]!) (f2 := (Try.prog.fieldsOf 26)[2]!) (f3 := (Try.prog.fieldsOf 26)[3]!) (f4 := (Try.prog.fieldsOf 26)[4]!) (g0 := (Try.prog.fieldsOf 23)[0]!) (g1 := (Try.prog.fieldsOf 23)[1]!) (k := a0) (by kernel_rfl) (by kernel_rfl) (by kernel_rfl) q0
  obtain ⟨a1, rfl, rfl, rfl, w1⟩ := open_int Try.underlying3 (hval 1 3 v1 rfl rfl) h1
  obtain ⟨a2, rfl, rfl, rfl, w2⟩ := Go.ChangeMaps.open_string Try.underlying9 (hval 2 9 v2 rfl rfl) h2
  obtain ⟨a3, rfl, rfl, rfl, w3⟩ := open_int Try.underlying3 (hval 3 3 v3 rfl rfl) h3
  obtain ⟨a4, rfl, rfl, rfl, w4⟩ := open_int Try.underlying3 (hval 4 3 v4 rfl rfl) h4
  have b1 := bounds_i64 w1
  have b2 : a2.size ≤ 140737488351232 := by have := sized_string hsz (j := 2) rfl rfl; rw [Array.length_toList] at this; exact this
  have b3 := bounds_i64 w3
  have b4 := bounds_i64 w4
  refine (walk a0 w0 b0 a1 b1.1 b1.2 a2 b2 a3 b3.1 b3.2 a4 b4.1 b4.2 W).mono fun e W' ⟨he, hb⟩ => ?_
  subst he
  exact ⟨_, rfl, Ends.law_end Ends.laidOut (by rw [Try.params3]; decide +kernel) rfl (by kernel_rfl) Try.underlying4 hW' rfl hb⟩

/-- The statement. -/
theorem proved : Rows.DiskTellsSaid :=
  OpenClaim.holds_of_wide 3 Try.f3 rfl rfl rfl rfl rfl rfl rfl ⟨rfl, rfl, rfl, rfl, rfl⟩ rfl rfl rfl rfl rfl (by kernel_rfl) Try.func3 (by kernel_rfl)
    (of_decide_eq_true (by kernel_rfl)) (by unfold Func.isWrapper; first | (rw [if_pos (by decide +kernel)]; kernel_rfl) | (rw [if_neg (by decide +kernel)]; exact ⟨rfl, rfl⟩))
    (fun os started H enc _ => lifted os started H enc)
end Go.Proofs.Ytoomanlonhnleaa.diskTells
