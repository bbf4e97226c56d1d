/- What the document's own Write, Sync and Cut make of a disk (demesneref09). -/
import Derived.Test.YtoomanlonhnleaaDRefB
namespace Go.Proofs.Ytoomanlonhnleaa.Disk
open Go.RowKit

/-- Behind the door: the disk, the one that is handed back. -/
structure DoorR (w W : World) (v : Dk) : Prop where
  d : W.heap[w.heap.size]? = some (boxR v)
  r : W.heap[w.heap.size + 1]? = some zeroR
  b : Below w.heap.size w W
theorem doorR (w : World) (v : Dk) : DoorR w ((w.alloc (boxR v)).alloc zeroR) v := ⟨Boxes.keep (Boxes.fresh _ _) (Boxes.old _ _), Boxes.fresh1 _ _ _, grows (Boxes.old _ _) (Boxes.old _ _)⟩
theorem DoorR.more {w W W' : World} {v : Dk} (h : DoorR w W v) (hb : Below W.heap.size W W') : DoorR w W' v := ⟨Boxes.keep h.d hb, Boxes.keep h.r hb, grows h.b hb⟩
theorem DoorR.back {w W : World} {v : Dk} (h : DoorR w W v) (x : Dk) : (W.setRow (w.heap.size + 1) (cellsD x)).heap[w.heap.size + 1]? = some (boxR x) ∧ Below w.heap.size w (W.setRow (w.heap.size + 1) (cellsD x)) :=
  ⟨setRow_heap W _ _ _ _ _ h.r, Whole.row_below h.b (by omega) _⟩
/-- Stores into a block behind the door turn neither. -/
theorem DoorR.set {w W : World} {v : Dk} (h : DoorR w W v) {b : Nat} (hb : w.heap.size + 1 < b) (i : Nat) (u : Value) : DoorR w (W.setCell ⟨b, i, none⟩ u) v :=
  ⟨(heap_setCell_other W ⟨b, i, none⟩ _ u (show w.heap.size ≠ b by omega)).trans h.d, (heap_setCell_other W ⟨b, i, none⟩ _ u (show w.heap.size + 1 ≠ b by omega)).trans h.r, h.b.setCell (show w.heap.size ≤ b by omega) u⟩
set_option maxHeartbeats 1000000 in
theorem write_refno (v : Dk) (f : Int) (s : ByteArray) (hr : refused v f ≠ 0) (w : World) : Calls Try.prog 11 #[valD v, .int .i64 f, .string s] w fun e w' => e = .returned (retD (v, refused v f)) ∧ Below w.heap.size w w' := by
  have HR := Lib.hid (refused_ref v f)
  obtain ⟨r, hrr⟩ : ∃ r, refused v f = r := ⟨_, rfl⟩
  rw [hrr] at HR hr ⊢
  clear hrr
  have hne : (r != 0) = true := by simpa using hr
  unfold valD at HR ⊢
  go_enter Try.func11, Try.ntmps11
  go_upto_region 1 with fail
  have hd := doorR w v
  obtain ⟨W0, hW0⟩ : ∃ W0, W0 = (w.alloc (boxR v)).alloc zeroR := ⟨_, rfl⟩
  rw [← hW0] at hd ⊢
  clear hW0
  go_wp2_with (refine Whole.load W0 rfl _ 31 rfl _ _ _ rfl hd.d Try.underlying31 rfl szR ?_)
  refine (HR.out _).mono ?_
  rintro e w1 ⟨rfl, hw1⟩
  have hd1 := hd.more hw1
  clear hd hw1
  obtain ⟨hE, hB⟩ := hd1.back v
  have h1 := hd1.d
  have h2 := hd1.r
  go_wp2_with (first | (refine Whole.load w1 rfl _ 31 rfl _ _ _ rfl h1 Try.underlying31 rfl szR ?_) | (refine Whole.store w1 rfl rfl _ _ 31 rfl (w.heap.size + 1) _ (cellsD v) rfl rfl h2 szR rfl (one_cells v) ?_))
  refine bodyPost_ret (v := retD (v, r)) (result_pairR rfl _ _ v r rfl hE rfl) rfl ⟨rfl, hB⟩
set_option maxHeartbeats 1000000 in
theorem sync_refno (v : Dk) (f : Int) (hr : refused v f ≠ 0) (w : World) : Calls Try.prog 13 #[valD v, .int .i64 f] w fun e w' => e = .returned (retD (v, refused v f)) ∧ Below w.heap.size w w' := by
  have HR := Lib.hid (refused_ref v f)
  obtain ⟨r, hrr⟩ : ∃ r, refused v f = r := ⟨_, rfl⟩
  rw [hrr] at HR hr ⊢
  clear hrr
  have hne : (r != 0) = true := by simpa using hr
  unfold valD at HR ⊢
  go_enter Try.func13, Try.ntmps13
  go_upto_region 1 with fail
  have hd := doorR w v
  obtain ⟨W0, hW0⟩ : ∃ W0, W0 = (w.alloc (boxR v)).alloc zeroR := ⟨_, rfl⟩
  rw [← hW0] at hd ⊢
  clear hW0
  go_wp2_with (refine Whole.load W0 rfl _ 31 rfl _ _ _ rfl hd.d Try.underlying31 rfl szR ?_)
  refine (HR.out _).mono ?_
  rintro e w1 ⟨rfl, hw1⟩
  have hd1 := hd.more hw1
  clear hd hw1
  obtain ⟨hE, hB⟩ := hd1.back v
  have h1 := hd1.d
  have h2 := hd1.r
  go_wp2_with (first | (refine Whole.load w1 rfl _ 31 rfl _ _ _ rfl h1 Try.underlying31 rfl szR ?_) | (refine Whole.store w1 rfl rfl _ _ 31 rfl (w.heap.size + 1) _ (cellsD v) rfl rfl h2 szR rfl (one_cells v) ?_))
  refine bodyPost_ret (v := retD (v, r)) (result_pairR rfl _ _ v r rfl hE rfl) rfl ⟨rfl, hB⟩
set_option maxHeartbeats 1000000 in
theorem cut_refno (v : Dk) (f : Int) (n : Int) (hr : refused v f ≠ 0) (w : World) : Calls Try.prog 15 #[valD v, .int .i64 f, .int .i64 n] w fun e w' => e = .returned (retD (v, refused v f)) ∧ Below w.heap.size w w' := by
  have HR := Lib.hid (refused_ref v f)
  obtain ⟨r, hrr⟩ : ∃ r, refused v f = r := ⟨_, rfl⟩
  rw [hrr] at HR hr ⊢
  clear hrr
  have hne : (r != 0) = true := by simpa using hr
  unfold valD at HR ⊢
  go_enter Try.func15, Try.ntmps15
  go_upto_region 1 with fail
  have hd := doorR w v
  obtain ⟨W0, hW0⟩ : ∃ W0, W0 = (w.alloc (boxR v)).alloc zeroR := ⟨_, rfl⟩
  rw [← hW0] at hd ⊢
  clear hW0
  go_wp2_with (refine Whole.load W0 rfl _ 31 rfl _ _ _ rfl hd.d Try.underlying31 rfl szR ?_)
  refine (HR.out _).mono ?_
  rintro e w1 ⟨rfl, hw1⟩
  have hd1 := hd.more hw1
  clear hd hw1
  obtain ⟨hE, hB⟩ := hd1.back v
  have h1 := hd1.d
  have h2 := hd1.r
  go_wp2_with (first | (refine Whole.load w1 rfl _ 31 rfl _ _ _ rfl h1 Try.underlying31 rfl szR ?_) | (refine Whole.store w1 rfl rfl _ _ 31 rfl (w.heap.size + 1) _ (cellsD v) rfl rfl h2 szR rfl (one_cells v) ?_))
  refine bodyPost_ret (v := retD (v, r)) (result_pairR rfl _ _ v r rfl hE rfl) rfl ⟨rfl, hB⟩
set_option maxHeartbeats 1000000 in
theorem write_ref0 (v : Dk) (hv : v.Fair) (s : ByteArray) (hr : refused v 0 = 0) (hs : used v + s.size ≤ 4611686018427387904) (w : World) : Calls Try.prog 11 #[valD v, .int .i64 0, .string s] w fun e w' => e = .returned (retD (write v 0 s)) ∧ Below w.heap.size w w' := by
  have HR := Lib.hid (refused_ref v 0)
  rw [hr] at HR
  have HU := Lib.hid (used_ref v (by omega))
  have HB := Lib.hid (burnt_ref v (put v 0 ((get v 0).more s)) (put v 0 ((get v 0).more s)) hv.f1 (put_rest _ _ _).2.1 (by rw [more_used]; exact hs))
  have hx : put v 0 ((get v 0).more s) = ⟨v.size, ⟨v.f0.hard, v.f0.soft ++ s⟩, v.f1, v.down, v.fuse, v.keep⟩ := rfl
  have hcat : ¬ 9223372036854775807 < v.f0.soft.size + s.size := by unfold used Fl.size at hs; omega
  have hform := write_form v 0 s hr
  obtain ⟨x, hxe⟩ : ∃ x, put v 0 ((get v 0).more s) = x := ⟨_, rfl⟩
  rw [hxe] at HB hform hx
  have hsz0 := hv.s0
  have hsz1 := hv.s1
  have hm : ∀ (W : World) (b : Nat), W.heap[b]? = some (boxR v) → (W.setCell ⟨b, 2, none⟩ (.string (v.f0.soft ++ s))).heap[b]? = some (boxR x) := fun W b h => by
    rw [hx]
    exact heap_setCell_same W b 2 _ _ (.string (v.f0.soft ++ s)) h
  obtain ⟨u, hu⟩ : ∃ u, used v = u := ⟨_, rfl⟩
  rw [hu] at HU hform hs
  unfold valD at HR HU HB ⊢
  obtain ⟨rr, hre⟩ : ∃ rr, write v 0 s = rr := ⟨_, rfl⟩
  rw [hre] at hform ⊢
  clear hre hxe hx hu hr hv
  go_enter Try.func11, Try.ntmps11
  go_upto_region 1 with fail
  have hd := doorR w v
  obtain ⟨W0, hW0⟩ : ∃ W0, W0 = (w.alloc (boxR v)).alloc zeroR := ⟨_, rfl⟩
  rw [← hW0] at hd ⊢
  clear hW0
  go_wp2_with (refine Whole.load W0 rfl _ 31 rfl _ _ _ rfl hd.d Try.underlying31 rfl szR ?_)
  refine (HR.out _).mono ?_
  rintro e w1 ⟨rfl, hw1⟩
  have hd1 := hd.more hw1
  clear hd hw1
  have hs' : (s.size : Int) ≤ 4611686018427387904 := by omega
  have hu' : (u : Int) ≤ 4611686018427387904 := by omega
  have q0 := Quiet.cell (Boxes.lt_of hd1.d) (Boxes.cell_at (i := 0) hd1.d (v := .int .i64 v.size) rfl)
  have h1 := hd1.d
  obtain ⟨sz, hsz⟩ : ∃ sz, v.size = sz := ⟨_, rfl⟩
  rw [hsz] at q0 hform hsz0 hsz1
  go_upto_region 4 with fail
  by_cases hfull : sz < (u : Int) + s.size
  · rw [if_pos (by omega)] at hform
    subst hform
    obtain ⟨hE, hB⟩ := hd1.back v
    have key : (decide (sz < (s.size : Int)) = true) ∨ (decide (sz < (s.size : Int)) = false ∧ decide (sz - (s.size : Int) < (u : Int)) = true ∧ IntKind.i64.wrap (sz - (s.size : Int)) = sz - (s.size : Int)) := by
      by_cases hl : sz < (s.size : Int)
      · exact .inl (decide_eq_true hl)
      · exact .inr ⟨decide_eq_false hl, decide_eq_true (by omega), by rw [IntKind.wrap_i64]; omega⟩
    rcases key with g0 | ⟨g0, g1, g2⟩
    all_goals
      refine Quiet.region (by kernel_rfl) (by kernel_rfl) ?_
      repeat (first | go_big_quiet_skip | (go_big_quiet_want; first | (refine Whole.quiet_load _ 31 rfl _ _ _ rfl h1 Try.underlying31 rfl szR ?_; simp only [Act.put, List.setIfInBounds_toArray, List.set_cons_succ, List.set_cons_zero]; go_big_quiet_on) | (go_big_quiet_op; first | go_big_quiet_on | go_big_quiet_call ((go_at_call 23; (with_reducible exact Quiet.calls (HU.out _)))))))
      refine wpQuiet_nil ?_
      rintro _ ⟨pq, rfl⟩
      have hd2 := hd1.more pq.below
      obtain ⟨hE2, hB2⟩ := hd2.back v
      have h3 := hd2.d
      have h4 := hd2.r
      generalize pq.world = wq at hd2 hE2 hB2 h3 h4 ⊢
      clear q0 h1 hE hB hd1 HU HB HR
      go_wp2_with (first | (refine Whole.load wq rfl _ 31 rfl _ _ _ rfl h3 Try.underlying31 rfl szR ?_) | (refine Whole.store wq rfl rfl _ _ 31 rfl (w.heap.size + 1) _ (cellsD v) rfl rfl h4 szR rfl (one_cells v) ?_))
      refine bodyPost_ret (v := retD (v, 9)) (result_pairR rfl _ _ v 9 rfl hE2 rfl) rfl ⟨rfl, hB2⟩
  · rw [if_neg (by omega)] at hform
    obtain ⟨z, k, hzk⟩ : ∃ z k, burnt v x x = (z, k) := ⟨_, _, rfl⟩
    rw [hzk] at hform
    have HB := Lib.hid HB.out
    unfold retD at HB
    rw [hzk] at HB
    subst hform
    clear hzk
    have g0 : decide (sz < (s.size : Int)) = false := decide_eq_false (by omega)
    have g1 : decide (sz - (s.size : Int) < (u : Int)) = false := decide_eq_false (by omega)
    have g2 : IntKind.i64.wrap (sz - (s.size : Int)) = sz - (s.size : Int) := by rw [IntKind.wrap_i64]; omega
    refine Quiet.region (by kernel_rfl) (by kernel_rfl) ?_
    repeat (first | go_big_quiet_skip | (go_big_quiet_want; first | (refine Whole.quiet_load _ 31 rfl _ _ _ rfl h1 Try.underlying31 rfl szR ?_; simp only [Act.put, List.setIfInBounds_toArray, List.set_cons_succ, List.set_cons_zero]; go_big_quiet_on) | (go_big_quiet_op; first | go_big_quiet_on | go_big_quiet_call ((go_at_call 23; (with_reducible exact Quiet.calls (HU.out _)))))))
    refine wpQuiet_nil ?_
    rintro _ ⟨pq, rfl⟩
    have hd2 := hd1.more pq.below
    have h3 := hd2.d
    have hlt2 := Boxes.lt_of hd2.r
    generalize pq.world = wq at hd2 h3 hlt2 ⊢
    clear q0 h1 hd1 HU HR
    have hd3 := hd2.more (Boxes.old wq (boxR v))
    have hx3 := Boxes.fresh wq (boxR v)
    have hd4 := hd3.set (show w.heap.size + 1 < wq.heap.size from hlt2) 2 (.string (v.f0.soft ++ s))
    have hx4 := hm _ _ hx3
    go_upto_region 7 with (first | (refine Whole.load wq rfl _ 31 rfl _ _ _ rfl h3 Try.underlying31 rfl szR ?_) | (refine store_new wq rfl rfl _ _ 31 rfl _ (cellsD v) rfl rfl szR rfl (one_cells v) ?_))
    obtain ⟨W3, hW3⟩ : ∃ W3, W3 = wq.alloc (boxR v) := ⟨_, rfl⟩
    rw [← hW3] at hd3 hx3 hd4 hx4 ⊢
    clear hW3
    obtain ⟨_, t1, t2, t3, t4, _, _, _⟩ := cells8 hx3
    have hfz := thaw hx3
    go_upto_region 8 with fail
    obtain ⟨W4, hW4⟩ : ∃ W4, W4 = W3.setCell ⟨wq.heap.size, 2, none⟩ (.string (v.f0.soft ++ s)) := ⟨_, rfl⟩
    rw [← hW4] at hd4 hx4 ⊢
    clear hW4 t1 t2 t3 t4 hfz hd3 hx3 hd2 h3
    unfold valD at HB
    dsimp only at HB
    have h5 := hd4.d
    go_wp2_with (first | (refine Whole.load W4 rfl _ 31 rfl _ _ _ rfl h5 Try.underlying31 rfl szR ?_) | (refine Whole.load W4 rfl _ 31 rfl _ _ _ rfl hx4 Try.underlying31 rfl szR ?_))
    refine (HB.out _).mono ?_
    rintro e w5 ⟨rfl, hw5⟩
    have hd5 := hd4.more hw5
    obtain ⟨hE, hB⟩ := hd5.back z
    have h2 := hd5.r
    go_wp2_with (refine Whole.store w5 rfl rfl _ _ 31 rfl (w.heap.size + 1) _ (cellsD z) rfl rfl h2 szR rfl (one_cells z) ?_)
    refine bodyPost_ret (v := retD (z, k)) (result_pairR rfl _ _ z k rfl hE rfl) rfl ⟨rfl, hB⟩
set_option maxHeartbeats 1000000 in
theorem write_ref1 (v : Dk) (hv : v.Fair) (s : ByteArray) (hr : refused v 1 = 0) (hs : used v + s.size ≤ 4611686018427387904) (w : World) : Calls Try.prog 11 #[valD v, .int .i64 1, .string s] w fun e w' => e = .returned (retD (write v 1 s)) ∧ Below w.heap.size w w' := by
  have HR := Lib.hid (refused_ref v 1)
  rw [hr] at HR
  have HU := Lib.hid (used_ref v (by omega))
  have HB := Lib.hid (burnt_ref v (put v 1 ((get v 1).more s)) (put v 1 ((get v 1).more s)) hv.f1 (put_rest _ _ _).2.1 (by rw [more_used]; exact hs))
  have hx : put v 1 ((get v 1).more s) = ⟨v.size, v.f0, ⟨v.f1.hard, v.f1.soft ++ s⟩, v.down, v.fuse, v.keep⟩ := rfl
  have hcat : ¬ 9223372036854775807 < v.f1.soft.size + s.size := by unfold used Fl.size at hs; omega
  have hform := write_form v 1 s hr
  obtain ⟨x, hxe⟩ : ∃ x, put v 1 ((get v 1).more s) = x := ⟨_, rfl⟩
  rw [hxe] at HB hform hx
  have hsz0 := hv.s0
  have hsz1 := hv.s1
  have hm : ∀ (W : World) (b : Nat), W.heap[b]? = some (boxR v) → (W.setCell ⟨b, 4, none⟩ (.string (v.f1.soft ++ s))).heap[b]? = some (boxR x) := fun W b h => by
    rw [hx]
    exact heap_setCell_same W b 4 _ _ (.string (v.f1.soft ++ s)) h
  obtain ⟨u, hu⟩ : ∃ u, used v = u := ⟨_, rfl⟩
  rw [hu] at HU hform hs
  unfold valD at HR HU HB ⊢
  obtain ⟨rr, hre⟩ : ∃ rr, write v 1 s = rr := ⟨_, rfl⟩
  rw [hre] at hform ⊢
  clear hre hxe hx hu hr hv
  go_enter Try.func11, Try.ntmps11
  go_upto_region 1 with fail
  have hd := doorR w v
  obtain ⟨W0, hW0⟩ : ∃ W0, W0 = (w.alloc (boxR v)).alloc zeroR := ⟨_, rfl⟩
  rw [← hW0] at hd ⊢
  clear hW0
  go_wp2_with (refine Whole.load W0 rfl _ 31 rfl _ _ _ rfl hd.d Try.underlying31 rfl szR ?_)
  refine (HR.out _).mono ?_
  rintro e w1 ⟨rfl, hw1⟩
  have hd1 := hd.more hw1
  clear hd hw1
  have hs' : (s.size : Int) ≤ 4611686018427387904 := by omega
  have hu' : (u : Int) ≤ 4611686018427387904 := by omega
  have q0 := Quiet.cell (Boxes.lt_of hd1.d) (Boxes.cell_at (i := 0) hd1.d (v := .int .i64 v.size) rfl)
  have h1 := hd1.d
  obtain ⟨sz, hsz⟩ : ∃ sz, v.size = sz := ⟨_, rfl⟩
  rw [hsz] at q0 hform hsz0 hsz1
  go_upto_region 4 with fail
  by_cases hfull : sz < (u : Int) + s.size
  · rw [if_pos (by omega)] at hform
    subst hform
    obtain ⟨hE, hB⟩ := hd1.back v
    have key : (decide (sz < (s.size : Int)) = true) ∨ (decide (sz < (s.size : Int)) = false ∧ decide (sz - (s.size : Int) < (u : Int)) = true ∧ IntKind.i64.wrap (sz - (s.size : Int)) = sz - (s.size : Int)) := by
      by_cases hl : sz < (s.size : Int)
      · exact .inl (decide_eq_true hl)
      · exact .inr ⟨decide_eq_false hl, decide_eq_true (by omega), by rw [IntKind.wrap_i64]; omega⟩
    rcases key with g0 | ⟨g0, g1, g2⟩
    all_goals
      refine Quiet.region (by kernel_rfl) (by kernel_rfl) ?_
      repeat (first | go_big_quiet_skip | (go_big_quiet_want; first | (refine Whole.quiet_load _ 31 rfl _ _ _ rfl h1 Try.underlying31 rfl szR ?_; simp only [Act.put, List.setIfInBounds_toArray, List.set_cons_succ, List.set_cons_zero]; go_big_quiet_on) | (go_big_quiet_op; first | go_big_quiet_on | go_big_quiet_call ((go_at_call 23; (with_reducible exact Quiet.calls (HU.out _)))))))
      refine wpQuiet_nil ?_
      rintro _ ⟨pq, rfl⟩
      have hd2 := hd1.more pq.below
      obtain ⟨hE2, hB2⟩ := hd2.back v
      have h3 := hd2.d
      have h4 := hd2.r
      generalize pq.world = wq at hd2 hE2 hB2 h3 h4 ⊢
      clear q0 h1 hE hB hd1 HU HB HR
      go_wp2_with (first | (refine Whole.load wq rfl _ 31 rfl _ _ _ rfl h3 Try.underlying31 rfl szR ?_) | (refine Whole.store wq rfl rfl _ _ 31 rfl (w.heap.size + 1) _ (cellsD v) rfl rfl h4 szR rfl (one_cells v) ?_))
      refine bodyPost_ret (v := retD (v, 9)) (result_pairR rfl _ _ v 9 rfl hE2 rfl) rfl ⟨rfl, hB2⟩
  · rw [if_neg (by omega)] at hform
    obtain ⟨z, k, hzk⟩ : ∃ z k, burnt v x x = (z, k) := ⟨_, _, rfl⟩
    rw [hzk] at hform
    have HB := Lib.hid HB.out
    unfold retD at HB
    rw [hzk] at HB
    subst hform
    clear hzk
    have g0 : decide (sz < (s.size : Int)) = false := decide_eq_false (by omega)
    have g1 : decide (sz - (s.size : Int) < (u : Int)) = false := decide_eq_false (by omega)
    have g2 : IntKind.i64.wrap (sz - (s.size : Int)) = sz - (s.size : Int) := by rw [IntKind.wrap_i64]; omega
    refine Quiet.region (by kernel_rfl) (by kernel_rfl) ?_
    repeat (first | go_big_quiet_skip | (go_big_quiet_want; first | (refine Whole.quiet_load _ 31 rfl _ _ _ rfl h1 Try.underlying31 rfl szR ?_; simp only [Act.put, List.setIfInBounds_toArray, List.set_cons_succ, List.set_cons_zero]; go_big_quiet_on) | (go_big_quiet_op; first | go_big_quiet_on | go_big_quiet_call ((go_at_call 23; (with_reducible exact Quiet.calls (HU.out _)))))))
    refine wpQuiet_nil ?_
    rintro _ ⟨pq, rfl⟩
    have hd2 := hd1.more pq.below
    have h3 := hd2.d
    have hlt2 := Boxes.lt_of hd2.r
    generalize pq.world = wq at hd2 h3 hlt2 ⊢
    clear q0 h1 hd1 HU HR
    have hd3 := hd2.more (Boxes.old wq (boxR v))
    have hx3 := Boxes.fresh wq (boxR v)
    have hd4 := hd3.set (show w.heap.size + 1 < wq.heap.size from hlt2) 4 (.string (v.f1.soft ++ s))
    have hx4 := hm _ _ hx3
    go_upto_region 7 with (first | (refine Whole.load wq rfl _ 31 rfl _ _ _ rfl h3 Try.underlying31 rfl szR ?_) | (refine store_new wq rfl rfl _ _ 31 rfl _ (cellsD v) rfl rfl szR rfl (one_cells v) ?_))
    obtain ⟨W3, hW3⟩ : ∃ W3, W3 = wq.alloc (boxR v) := ⟨_, rfl⟩
    rw [← hW3] at hd3 hx3 hd4 hx4 ⊢
    clear hW3
    obtain ⟨_, t1, t2, t3, t4, _, _, _⟩ := cells8 hx3
    have hfz := thaw hx3
    go_upto_region 8 with fail
    obtain ⟨W4, hW4⟩ : ∃ W4, W4 = W3.setCell ⟨wq.heap.size, 4, none⟩ (.string (v.f1.soft ++ s)) := ⟨_, rfl⟩
    rw [← hW4] at hd4 hx4 ⊢
    clear hW4 t1 t2 t3 t4 hfz hd3 hx3 hd2 h3
    unfold valD at HB
    dsimp only at HB
    have h5 := hd4.d
    go_wp2_with (first | (refine Whole.load W4 rfl _ 31 rfl _ _ _ rfl h5 Try.underlying31 rfl szR ?_) | (refine Whole.load W4 rfl _ 31 rfl _ _ _ rfl hx4 Try.underlying31 rfl szR ?_))
    refine (HB.out _).mono ?_
    rintro e w5 ⟨rfl, hw5⟩
    have hd5 := hd4.more hw5
    obtain ⟨hE, hB⟩ := hd5.back z
    have h2 := hd5.r
    go_wp2_with (refine Whole.store w5 rfl rfl _ _ 31 rfl (w.heap.size + 1) _ (cellsD z) rfl rfl h2 szR rfl (one_cells z) ?_)
    refine bodyPost_ret (v := retD (z, k)) (result_pairR rfl _ _ z k rfl hE rfl) rfl ⟨rfl, hB⟩
end Go.Proofs.Ytoomanlonhnleaa.Disk
