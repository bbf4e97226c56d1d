/- What disk.Sync and disk.Cut make of a disk. -/
import Derived.Test.YtoomanlonhnleaaDDone
import Derived.Test.YtoomanlonhnleaaDMore
namespace Go.Proofs.Ytoomanlonhnleaa.Disk
open Go.RowKit

/-- What lies in memory behind the door of Sync and Cut: the disk, and the one that is handed back. -/
structure Door2 (w W : World) (v : Dk) : Prop where
  d : W.heap[w.heap.size]? = some (.cells (cellsD v) 26)
  r : W.heap[w.heap.size + 1]? = some zeroD
  b : Below w.heap.size w W
theorem door2 (w : World) (v : Dk) : Door2 w ((w.alloc (.cells (cellsD v) 26)).alloc zeroD) v :=
  ⟨Boxes.keep (Boxes.fresh _ _) (Boxes.old _ _), Boxes.fresh1 _ _ _, (Boxes.old _ _).trans ((Boxes.old _ _).mono (Boxes.old _ _).size)⟩
theorem Door2.more {w W W' : World} {v : Dk} (h : Door2 w W v) (hb : Below W.heap.size W W') : Door2 w W' v :=
  ⟨Boxes.keep h.d hb, Boxes.keep h.r hb, h.b.trans (hb.mono h.b.size)⟩
theorem Door2.back {w W : World} {v : Dk} (h : Door2 w W v) (x : Dk) : (W.setRow (w.heap.size + 1) (cellsD x)).heap[w.heap.size + 1]? = some (.cells (cellsD x) 26) ∧ Below w.heap.size w (W.setRow (w.heap.size + 1) (cellsD x)) :=
  ⟨setRow_heap W _ _ _ _ _ h.r, Whole.row_below h.b (by omega) _⟩
theorem sync_form (v : Dk) (f : Int) (hr : refused v f = 0) : sync v f = burnt v (put v f (get v f).firm) (put v f (get v f)) := by
  unfold sync
  rw [if_pos hr, put_get]
theorem cut_form (v : Dk) (f n : Int) (hr : refused v f = 0) : cut v f n = burnt v (put v f ((get v f).head n)) (put v f (get v f)) := by
  unfold cut
  rw [if_pos hr, put_get]
theorem head_neg (x : Fl) {n : Int} (h : n < 0) : x.head n = x.head 0 := by
  unfold Fl.head
  rw [clip_none (n := n) (by omega), clip_none (n := 0) (by omega), clip_none (n := n - x.hard.size) (by omega), clip_none (n := 0 - (x.hard.size : Int)) (by omega)]
set_option maxHeartbeats 1000000 in
theorem sync_no (v : Dk) (f : Int) (hr : refused v f ≠ 0) (w : World) : Calls Try.prog 12 #[valD v, .int .i64 f] w fun e w' => e = .returned (retD (v, refused v f)) ∧ Below w.heap.size w w' := by
  have HR := Lib.hid (refusal_any v f)
  obtain ⟨r, hrr⟩ : ∃ r, refused v f = r := ⟨_, rfl⟩
  rw [hrr] at HR hr ⊢
  clear hrr
  have hne : (r != 0) = true := by simpa using hr
  unfold valD at HR ⊢
  go_enter Try.func12, Try.ntmps12
  go_upto_region 1 with fail
  have hd := door2 w v
  obtain ⟨W0, hW0⟩ : ∃ W0, W0 = (w.alloc (.cells (cellsD v) 26)).alloc zeroD := ⟨_, rfl⟩
  rw [← hW0] at hd ⊢
  clear hW0
  go_wp2_with (refine Whole.load W0 rfl _ 26 rfl w.heap.size _ _ rfl hd.d Try.underlying26 rfl szD ?_)
  refine (HR.out _).mono ?_
  rintro e w1 ⟨rfl, hw1⟩
  have hd1 := hd.more hw1
  obtain ⟨hE, hB⟩ := hd1.back v
  clear hd hw1
  go_wp2_with (first | (refine Whole.load w1 rfl _ 26 rfl w.heap.size _ _ rfl hd1.d Try.underlying26 rfl szD ?_) | (refine Whole.store w1 rfl rfl _ _ 26 rfl (w.heap.size + 1) _ (cellsD v) rfl rfl hd1.r szD rfl (one_cells v) ?_))
  refine bodyPost_ret (v := retD (v, r)) (result_pair rfl _ _ v r rfl hE rfl) rfl ⟨rfl, hB⟩
set_option maxHeartbeats 1000000 in
theorem sync_yes (v : Dk) (hv : v.Fair) (f : Int) (hr : refused v f = 0) (hs : used v ≤ 4611686018427387904) (w : World) : Calls Try.prog 12 #[valD v, .int .i64 f] w fun e w' => e = .returned (retD (sync v f)) ∧ Below w.heap.size w w' := by
  have HR := Lib.hid (refusal_any v f)
  have hff := refused_file hr
  have HD : Hid (∀ W, Calls Try.prog 31 #[valD v, .int .i64 f, .func (.func 34) #[] #[], .func (.func 36) #[] #[]] W
      fun e w' => e = .returned (retD (sync v f)) ∧ Below W.heap.size W w') := Lib.hid (by
    intro W
    rw [sync_form v f hr]
    exact do_any v hv.f1 f hff _ _ (by rw [put_get]; exact hs) _ _ _ _ W (fun _ _ => by kernel_rfl) (fun _ _ => by kernel_rfl) (fun _ w' _ => sync1_any (get v f) (by have := get_size v f; omega) w') (fun _ w' _ => leave_any (get v f) w'))
  rw [hr] at HR
  obtain ⟨x, hx⟩ : ∃ x, sync v f = x := ⟨_, rfl⟩
  rw [hx] at HD ⊢
  clear hx hr hff
  obtain ⟨y, n⟩ := x
  unfold valD at HR HD ⊢
  unfold retD valD at HD
  dsimp only at HD
  go_enter Try.func12, Try.ntmps12
  go_upto_region 1 with fail
  have hd := door2 w v
  obtain ⟨W0, hW0⟩ : ∃ W0, W0 = (w.alloc (.cells (cellsD v) 26)).alloc zeroD := ⟨_, rfl⟩
  rw [← hW0] at hd ⊢
  clear hW0
  go_wp2_with (refine Whole.load W0 rfl _ 26 rfl w.heap.size _ _ rfl hd.d Try.underlying26 rfl szD ?_)
  refine (HR.out _).mono ?_
  rintro e w1 ⟨rfl, hw1⟩
  have hd1 := hd.more hw1
  clear hd hw1
  go_wp2_with (refine Whole.load w1 rfl _ 26 rfl w.heap.size _ _ rfl hd1.d Try.underlying26 rfl szD ?_)
  refine (HD.out _).mono ?_
  rintro e w3 ⟨rfl, hw3⟩
  have hd3 := hd1.more hw3
  obtain ⟨hE, hB⟩ := hd3.back y
  clear hd1 hw3
  go_wp2_with (refine Whole.store w3 rfl rfl _ _ 26 rfl (w.heap.size + 1) _ (cellsD y) rfl rfl hd3.r szD rfl (one_cells y) ?_)
  refine bodyPost_ret (v := retD (y, n)) (result_pair rfl _ _ y n rfl hE rfl) rfl ⟨rfl, hB⟩
theorem sync_any (v : Dk) (hv : v.Fair) (f : Int) (hs : used v ≤ 4611686018427387904) (w : World) : Calls Try.prog 12 #[valD v, .int .i64 f] w fun e w' => e = .returned (retD (sync v f)) ∧ Below w.heap.size w w' := by
  by_cases hr : refused v f = 0
  · exact sync_yes v hv f hr hs w
  · rw [show sync v f = (v, refused v f) by unfold sync; rw [if_neg hr]]
    exact sync_no v f hr w
set_option maxHeartbeats 1000000 in
theorem cut_no (v : Dk) (f n : Int) (hr : refused v f ≠ 0) (w : World) : Calls Try.prog 14 #[valD v, .int .i64 f, .int .i64 n] w fun e w' => e = .returned (retD (v, refused v f)) ∧ Below w.heap.size w w' := by
  have HR := Lib.hid (refusal_any v f)
  obtain ⟨r, hrr⟩ : ∃ r, refused v f = r := ⟨_, rfl⟩
  rw [hrr] at HR hr ⊢
  clear hrr
  have hne : (r != 0) = true := by simpa using hr
  unfold valD at HR ⊢
  go_enter Try.func14, Try.ntmps14
  go_upto_region 1 with fail
  have hd := door2 w v
  obtain ⟨W0, hW0⟩ : ∃ W0, W0 = (w.alloc (.cells (cellsD v) 26)).alloc zeroD := ⟨_, rfl⟩
  rw [← hW0] at hd ⊢
  clear hW0
  go_wp2_with (refine Whole.load W0 rfl _ 26 rfl w.heap.size _ _ rfl hd.d Try.underlying26 rfl szD ?_)
  refine (HR.out _).mono ?_
  rintro e w1 ⟨rfl, hw1⟩
  have hd1 := hd.more hw1
  obtain ⟨hE, hB⟩ := hd1.back v
  clear hd hw1
  go_wp2_with (first | (refine Whole.load w1 rfl _ 26 rfl w.heap.size _ _ rfl hd1.d Try.underlying26 rfl szD ?_) | (refine Whole.store w1 rfl rfl _ _ 26 rfl (w.heap.size + 1) _ (cellsD v) rfl rfl hd1.r szD rfl (one_cells v) ?_))
  refine bodyPost_ret (v := retD (v, r)) (result_pair rfl _ _ v r rfl hE rfl) rfl ⟨rfl, hB⟩
set_option maxHeartbeats 1000000 in
theorem cut_yes (v : Dk) (hv : v.Fair) (f n m : Int) (hn : n ≤ 9223372036854775807) (hm : (n < 0 ∧ m = 0) ∨ (0 ≤ n ∧ m = n)) (hr : refused v f = 0) (hs : used v ≤ 4611686018427387904) (w : World) :
    Calls Try.prog 14 #[valD v, .int .i64 f, .int .i64 n] w fun e w' => e = .returned (retD (cut v f m)) ∧ Below w.heap.size w w' := by
  have HR := Lib.hid (refusal_any v f)
  have hff := refused_file hr
  have HD : Hid (∀ W, ∀ b, W.heap[b]? = some (.cells #[.int .i64 m] 3) → Calls Try.prog 31 #[valD v, .int .i64 f, .func (.func 37) #[] #[.pointer (some ⟨b, 0, none⟩)], .func (.func 36) #[] #[]] W
      fun e w' => e = .returned (retD (cut v f m)) ∧ Below W.heap.size W w') := Lib.hid (by
    intro W b hb
    rw [cut_form v f m hr]
    exact do_any v hv.f1 f hff _ _ (by rw [put_get]; exact hs) _ _ _ _ W (fun _ _ => by kernel_rfl) (fun _ _ => by kernel_rfl)
      (fun _ w' hw => cut1_any (get v f) m (by omega) (by omega) (by have := get_size v f; omega) _ w' (Boxes.lt_of (Boxes.keep hb hw)) (Boxes.cell_at (Boxes.keep hb hw) rfl)) (fun _ w' _ => leave_any (get v f) w'))
  rw [hr] at HR
  obtain ⟨x, hx⟩ : ∃ x, cut v f m = x := ⟨_, rfl⟩
  rw [hx] at HD ⊢
  clear hx hr hff
  obtain ⟨y, k⟩ := x
  unfold valD at HR HD ⊢
  unfold retD valD at HD
  dsimp only at HD
  go_enter Try.func14, Try.ntmps14
  go_upto_region 1 with fail
  have hd := door2 w v
  obtain ⟨W0, hW0⟩ : ∃ W0, W0 = (w.alloc (.cells (cellsD v) 26)).alloc zeroD := ⟨_, rfl⟩
  rw [← hW0] at hd ⊢
  clear hW0
  go_wp2_with (refine Whole.load W0 rfl _ 26 rfl w.heap.size _ _ rfl hd.d Try.underlying26 rfl szD ?_)
  refine (HR.out _).mono ?_
  rintro e w1 ⟨rfl, hw1⟩
  have hd1 := (hd.more hw1).more (Boxes.old w1 (.cells #[.int .i64 m] 3))
  have hc1 := Boxes.fresh w1 (.cells #[.int .i64 m] 3)
  clear hd hw1
  have HD' := Lib.hid (HD.out _ _ hc1)
  clear HD hc1
  rcases hm with ⟨h, rfl⟩ | ⟨h, rfl⟩
  all_goals
    go_wp2_with (refine Whole.load _ rfl _ 26 rfl w.heap.size _ _ rfl hd1.d Try.underlying26 rfl szD ?_)
    refine HD'.out.mono ?_
    rintro e w3 ⟨rfl, hw3⟩
    have hd3 := hd1.more hw3
    obtain ⟨hE, hB⟩ := hd3.back y
    clear hd1 hw3 HD'
    go_wp2_with (refine Whole.store w3 rfl rfl _ _ 26 rfl (w.heap.size + 1) _ (cellsD y) rfl rfl hd3.r szD rfl (one_cells y) ?_)
    refine bodyPost_ret (v := retD (y, k)) (result_pair rfl _ _ y k rfl hE rfl) rfl ⟨rfl, hB⟩
theorem cut_any (v : Dk) (hv : v.Fair) (f n : Int) (hn : n ≤ 9223372036854775807) (hs : used v ≤ 4611686018427387904) (w : World) : Calls Try.prog 14 #[valD v, .int .i64 f, .int .i64 n] w fun e w' => e = .returned (retD (cut v f n)) ∧ Below w.heap.size w w' := by
  by_cases hr : refused v f = 0
  · by_cases h : n < 0
    · rw [show cut v f n = cut v f 0 by rw [cut_form v f n hr, cut_form v f 0 hr, head_neg _ h]]
      exact cut_yes v hv f n 0 hn (.inl ⟨h, rfl⟩) hr hs w
    · exact cut_yes v hv f n n hn (.inr ⟨by omega, rfl⟩) hr hs w
  · rw [show cut v f n = (v, refused v f) by unfold cut; rw [if_neg hr]]
    exact cut_no v f n hr w
end Go.Proofs.Ytoomanlonhnleaa.Disk
