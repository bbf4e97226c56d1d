/- What disk.do makes of a disk, in one form; disk.Write. -/
import Derived.Test.YtoomanlonhnleaaDDeed
import Derived.Test.YtoomanlonhnleaaDCutC
namespace Go.Proofs.Ytoomanlonhnleaa.Disk
open Go.RowKit

theorem valD_letters (v : Dk) : valD v = .agg #[.int .i64 v.size, .string v.f0.hard, .string v.f0.soft, .string v.f1.hard, .string v.f1.soft, .bool v.down, .int .i64 v.fuse, .int .i64 v.keep] := rfl
/-- What a deed tells. -/
def retD (r : Dk × Int) : Value := .tuple #[valD r.1, .int .i64 r.2]

theorem do_any (v : Dk) (hfu : v.fuse ≤ 9223372036854775807) (f : Int) (hf : f = 0 ∨ f = 1) (x y : Fl) (hy : used (put v f y) ≤ 4611686018427387904) (F G : FuncId) (capF capG : Array Value) (w : World)
    (hcF : ∀ (args : Array Value) (w : World), (callFunc F args).run Try.prog w = .ok (.enter F args) w) (hcG : ∀ (args : Array Value) (w : World), (callFunc G args).run Try.prog w = .ok (.enter G args) w)
    (HF : v.fuse ≠ 0 → ∀ w', Below w.heap.size w w' → Calls Try.prog F (#[valF (get v f)] ++ capF) w' fun e w'' => e = .returned (valF x) ∧ Below w'.heap.size w' w'')
    (HG : v.fuse = 0 → ∀ w', Below w.heap.size w w' → Calls Try.prog G (#[valF (get v f)] ++ capG) w' fun e w'' => e = .returned (valF y) ∧ Below w'.heap.size w' w'') :
    Calls Try.prog 31 #[valD v, .int .i64 f, .func (.func F) #[] capF, .func (.func G) #[] capG] w fun e w' => e = .returned (retD (burnt v (put v f x) (put v f y))) ∧ Below w.heap.size w w' := by
  rcases Int.lt_trichotomy v.fuse 0 with h | h | h
  · rw [fuse_none h]
    have HF := HF (by omega)
    rcases hf with rfl | rfl
    · exact do0_none v.size v.f0.hard v.f0.soft v.f1.hard v.f1.soft x.hard x.soft v.down v.fuse v.keep F G capF capG w hcF HF h
    · exact do1_none v.size v.f0.hard v.f0.soft v.f1.hard v.f1.soft x.hard x.soft v.down v.fuse v.keep F G capF capG w hcF HF h
  · rw [fuse_out h]
    have HG := HG h
    have HC := fun w' => crash_any (put v f y) hy v.keep w'
    rcases hf with rfl | rfl
    · exact do0_out v.size v.f0.hard v.f0.soft v.f1.hard v.f1.soft y.hard y.soft v.down v.fuse v.keep F G capF capG w hcG HG h (crash (put v 0 y) v.keep).size (crash (put v 0 y) v.keep).f0.hard (crash (put v 0 y) v.keep).f0.soft (crash (put v 0 y) v.keep).f1.hard (crash (put v 0 y) v.keep).f1.soft (crash (put v 0 y) v.keep).down (crash (put v 0 y) v.keep).fuse (crash (put v 0 y) v.keep).keep HC
    · exact do1_out v.size v.f0.hard v.f0.soft v.f1.hard v.f1.soft y.hard y.soft v.down v.fuse v.keep F G capF capG w hcG HG h (crash (put v 1 y) v.keep).size (crash (put v 1 y) v.keep).f0.hard (crash (put v 1 y) v.keep).f0.soft (crash (put v 1 y) v.keep).f1.hard (crash (put v 1 y) v.keep).f1.soft (crash (put v 1 y) v.keep).down (crash (put v 1 y) v.keep).fuse (crash (put v 1 y) v.keep).keep HC
  · rw [fuse_well h]
    have HF := HF (by omega)
    rcases hf with rfl | rfl
    · exact do0_some v.size v.f0.hard v.f0.soft v.f1.hard v.f1.soft x.hard x.soft v.down v.fuse v.keep F G capF capG w hcF HF h hfu
    · exact do1_some v.size v.f0.hard v.f0.soft v.f1.hard v.f1.soft x.hard x.soft v.down v.fuse v.keep F G capF capG w hcF HF h hfu

theorem one_cells (v : Dk) : (cellsD v).all (·.oneCell') = true := one8 _ _ _ _ _ _ _ _
theorem refused_file {v : Dk} {f : Int} (h : refused v f = 0) : f = 0 ∨ f = 1 := by
  unfold refused at h
  by_cases hf : f = 0 ∨ f = 1
  · exact hf
  · rw [if_pos hf] at h
    cases h
theorem result_pair {fn : Func} {p q : Tmp} (h : fn.results = #[.cell p 26, .tmp q]) (tmps : Array Value) (w : World) {b : Nat} (v : Dk) (x : Int) (hp : tmps.getD p undef = .pointer (some ⟨b, 0, none⟩))
    (hb : w.heap[b]? = some (.cells (cellsD v) 26)) (hv : tmps.getD q undef = .int .i64 x) : (results fn tmps).run Try.prog w = .ok (retD (v, x)) w :=
  Whole.result_two h tmps Try.prog w hp hb Try.underlying26 rfl szD hv
abbrev zeroD : Obj := .cells #[.int .i64 0, .string ⟨#[]⟩, .string ⟨#[]⟩, .string ⟨#[]⟩, .string ⟨#[]⟩, .bool false, .int .i64 0, .int .i64 0] 26
/-- What lies in memory behind the door of Write: the disk, another block, the disk that is handed back. -/
structure Door (w W : World) (v : Dk) (o : Obj) : Prop where
  d : W.heap[w.heap.size]? = some (.cells (cellsD v) 26)
  o : W.heap[w.heap.size + 1]? = some o
  r : W.heap[w.heap.size + 1 + 1]? = some zeroD
  b : Below w.heap.size w W
theorem door (w : World) (v : Dk) (o : Obj) : Door w (((w.alloc (.cells (cellsD v) 26)).alloc o).alloc zeroD) v o :=
  ⟨Boxes.keep (Boxes.keep (Boxes.fresh _ _) (Boxes.old _ _)) (Boxes.old _ _), Boxes.keep (Boxes.fresh1 _ _ _) (Boxes.old _ _), Boxes.fresh2 _ _ _ _,
    (Boxes.old _ _).trans (((Boxes.old _ _).trans ((Boxes.old _ _).mono (Boxes.old _ _).size)).mono (Boxes.old _ _).size)⟩
theorem Door.more {w W W' : World} {v : Dk} {o : Obj} (h : Door w W v o) (hb : Below W.heap.size W W') : Door w W' v o :=
  ⟨Boxes.keep h.d hb, Boxes.keep h.o hb, Boxes.keep h.r hb, h.b.trans (hb.mono h.b.size)⟩
theorem Door.drew {w W : World} {v : Dk} {o : Obj} (h : Door w W v o) (n : Nat) : Door w (W.drewN n) v o := h.more (below_drewN (Below.refl _ _) n)
theorem Door.back {w W : World} {v : Dk} {o : Obj} (h : Door w W v o) (x : Dk) : (W.setRow (w.heap.size + 1 + 1) (cellsD x)).heap[w.heap.size + 1 + 1]? = some (.cells (cellsD x) 26) ∧ Below w.heap.size w (W.setRow (w.heap.size + 1 + 1) (cellsD x)) :=
  ⟨setRow_heap W _ _ _ _ _ h.r, Whole.row_below h.b (by omega) _⟩
set_option maxHeartbeats 1000000 in
theorem write_no (v : Dk) (f : Int) (s : ByteArray) (hr : refused v f ≠ 0) (w : World) : Calls Try.prog 10 #[valD v, .int .i64 f, .string s] w fun e w' => e = .returned (retD (v, refused v f)) ∧ Below w.heap.size w w' := by
  have HR := Lib.hid (refusal_any v f)
  obtain ⟨r, hrr⟩ : ∃ r, refused v f = r := ⟨_, rfl⟩
  rw [hrr] at HR hr ⊢
  clear hrr
  have hne : (r != 0) = true := by simpa using hr
  unfold valD at HR ⊢
  go_enter Try.func10, Try.ntmps10
  go_upto_region 1 with fail
  have hd := door w v (.cells #[.string s] 9)
  obtain ⟨W0, hW0⟩ : ∃ W0, W0 = ((w.alloc (.cells (cellsD v) 26)).alloc (.cells #[.string s] 9)).alloc zeroD := ⟨_, rfl⟩
  rw [← hW0] at hd ⊢
  clear hW0
  go_wp2_with (refine Whole.load W0 rfl _ 26 rfl w.heap.size _ _ rfl hd.d Try.underlying26 rfl szD ?_)
  refine (HR.out _).mono ?_
  rintro e w1 ⟨rfl, hw1⟩
  have hd1 := hd.more hw1
  obtain ⟨hE, hB⟩ := hd1.back v
  clear hd hw1
  go_wp2_with (first | (refine Whole.load w1 rfl _ 26 rfl w.heap.size _ _ rfl hd1.d Try.underlying26 rfl szD ?_) | (refine Whole.store w1 rfl rfl _ _ 26 rfl (w.heap.size + 1 + 1) _ (cellsD v) rfl rfl hd1.r szD rfl (one_cells v) ?_))
  refine bodyPost_ret (v := retD (v, r)) (result_pair rfl _ _ v r rfl hE rfl) rfl ⟨rfl, hB⟩

theorem more_used (v : Dk) (f : Int) (s : ByteArray) : used (put v f ((get v f).more s)) = used v + s.size := room_more v f s
theorem write_form (v : Dk) (f : Int) (s : ByteArray) (hr : refused v f = 0) : write v f s = if v.size < used v + s.size then (v, 9) else burnt v (put v f ((get v f).more s)) (put v f ((get v f).more s)) := by
  unfold write
  rw [if_pos hr]
theorem get_size (v : Dk) (f : Int) : (get v f).size ≤ used v := by
  unfold get used
  split <;> omega
set_option maxHeartbeats 1000000 in
theorem write_yes (v : Dk) (hv : v.Fair) (f : Int) (s : ByteArray) (hr : refused v f = 0) (hs : used v + s.size ≤ 4611686018427387904) (w : World) : Calls Try.prog 10 #[valD v, .int .i64 f, .string s] w fun e w' => e = .returned (retD (write v f s)) ∧ Below w.heap.size w w' := by
  have HR := Lib.hid (refusal_any v f)
  have HU := Lib.hid (used_any v (by omega))
  have hff := refused_file hr
  have HD : Hid (¬ v.size < used v + s.size → ∀ W, Door w W v (.cells #[.string s] 9) → Calls Try.prog 31 #[valD v, .int .i64 f, .func (.func 30) #[] #[.pointer (some ⟨w.heap.size + 1, 0, none⟩)], .func (.func 30) #[] #[.pointer (some ⟨w.heap.size + 1, 0, none⟩)]] W
      fun e w' => e = .returned (retD (write v f s)) ∧ Below W.heap.size W w') := Lib.hid (by
    intro hz W hd
    rw [write_form v f s hr, if_neg hz]
    have h1 : ∀ w', Below W.heap.size W w' → Calls Try.prog 30 (#[valF (get v f)] ++ #[.pointer (some ⟨w.heap.size + 1, 0, none⟩)]) w' fun e w'' => e = .returned (valF ((get v f).more s)) ∧ Below w'.heap.size w' w'' := fun w' hb =>
      write1_any (get v f) s (by have := get_size v f; omega) _ w' (Boxes.lt_of (Boxes.keep hd.o hb)) (Boxes.cell_at (Boxes.keep hd.o hb) rfl)
    exact do_any v hv.f1 f hff _ _ (by rw [more_used]; exact hs) _ _ _ _ W (fun _ _ => by kernel_rfl) (fun _ _ => by kernel_rfl) (fun _ => h1) (fun _ => h1))
  rw [hr] at HR
  have hw9 : v.size < used v + s.size → write v f s = (v, 9) := fun h => by rw [write_form v f s hr, if_pos h]
  obtain ⟨x, hx⟩ : ∃ x, write v f s = x := ⟨_, rfl⟩
  rw [hx] at HD hw9 ⊢
  obtain ⟨u, hu⟩ : ∃ u, used v = u := ⟨_, rfl⟩
  rw [hu] at HD HU hw9 hs
  clear hx hu hr hff
  obtain ⟨y, n⟩ := x
  unfold valD at HR HU HD ⊢
  unfold retD valD at HD
  dsimp only at HD
  go_enter Try.func10, Try.ntmps10
  go_upto_region 1 with fail
  have hd := door w v (.cells #[.string s] 9)
  obtain ⟨W0, hW0⟩ : ∃ W0, W0 = ((w.alloc (.cells (cellsD v) 26)).alloc (.cells #[.string s] 9)).alloc zeroD := ⟨_, rfl⟩
  rw [← hW0] at hd ⊢
  clear hW0
  go_wp2_with (refine Whole.load W0 rfl _ 26 rfl w.heap.size _ _ rfl hd.d Try.underlying26 rfl szD ?_)
  refine (HR.out _).mono ?_
  rintro e w1 ⟨rfl, hw1⟩
  have hd1 := hd.more hw1
  clear hd hw1
  have hlt := Boxes.lt_of hd1.r
  have q0 : ∀ p : Quiet.Behind w1, p.world.cell? ⟨w.heap.size, 0, none⟩ = some (.int .i64 v.size) := Quiet.cell (show w.heap.size < _ by omega) (Boxes.cell_at hd1.d rfl)
  have q1 : ∀ p : Quiet.Behind w1, p.world.cell? ⟨w.heap.size + 1, 0, none⟩ = some (.string s) := Quiet.cell (show w.heap.size + 1 < _ by omega) (Boxes.cell_at hd1.o rfl)
  have hs' : (u : Int) + (s.size : Int) ≤ 4611686018427387904 := by omega
  go_upto_region 4 with fail
  refine Quiet.region (by kernel_rfl) (by kernel_rfl) ?_
  repeat (first | go_big_quiet_skip | (go_big_quiet_want; first | (refine Whole.quiet_load _ 26 rfl w.heap.size _ _ rfl hd1.d Try.underlying26 rfl szD ?_; simp only [Act.put, List.setIfInBounds_toArray, List.set_cons_succ, List.set_cons_zero]; go_big_quiet_on) | (go_big_quiet_op; first | go_big_quiet_on | go_big_quiet_call ((go_at_call 22; (with_reducible exact Quiet.calls (HU.out _)))))))
  refine wpQuiet_nil ?_
  rintro _ ⟨pq, rfl⟩
  have hq := pq.below
  generalize pq.world = wq at hq ⊢
  have hd2 := hd1.more hq
  clear q0 q1 hd1 hq hlt
  by_cases hz : v.size < (u : Int) + (s.size : Int)
  · obtain ⟨rfl, rfl⟩ := Prod.mk.inj (hw9 (by omega))
    obtain ⟨hE, hB⟩ := hd2.back y
    clear HD HU HR hw9
    go_wp2_with (first | (refine Whole.load wq rfl _ 26 rfl w.heap.size _ _ rfl hd2.d Try.underlying26 rfl szD ?_) | (refine Whole.store wq rfl rfl _ _ 26 rfl (w.heap.size + 1 + 1) _ (cellsD y) rfl rfl hd2.r szD rfl (one_cells y) ?_))
    refine bodyPost_ret (v := retD (y, 9)) (result_pair rfl _ _ y 9 rfl hE rfl) rfl ⟨rfl, hB⟩
  · have HD' := Lib.hid (HD.out (by omega))
    clear HD HU HR hw9
    go_wp2_with (refine Whole.load wq rfl _ 26 rfl w.heap.size _ _ rfl hd2.d Try.underlying26 rfl szD ?_)
    refine (HD'.out _ hd2).mono ?_
    rintro e w3 ⟨rfl, hw3⟩
    have hd3 := hd2.more hw3
    obtain ⟨hE, hB⟩ := hd3.back y
    clear hd2 hw3
    go_wp2_with (refine Whole.store w3 rfl rfl _ _ 26 rfl (w.heap.size + 1 + 1) _ (cellsD y) rfl rfl hd3.r szD rfl (one_cells y) ?_)
    refine bodyPost_ret (v := retD (y, n)) (result_pair rfl _ _ y n rfl hE rfl) rfl ⟨rfl, hB⟩
theorem write_any (v : Dk) (hv : v.Fair) (f : Int) (s : ByteArray) (hs : used v + s.size ≤ 4611686018427387904) (w : World) : Calls Try.prog 10 #[valD v, .int .i64 f, .string s] w fun e w' => e = .returned (retD (write v f s)) ∧ Below w.heap.size w w' := by
  by_cases hr : refused v f = 0
  · exact write_yes v hv f s hr hs w
  · rw [show write v f s = (v, refused v f) by unfold write; rw [if_neg hr]]
    exact write_no v f s hr w
end Go.Proofs.Ytoomanlonhnleaa.Disk
