import Derived.Test.YtbilkeadhflibaaGreatDoorJL2
import Derived.Test.YtbilkeadhflibaaGreatDoorJL1
import Derived.Deep.RegionWith
import Derived.Below
import Derived.WalkKit
import Derived.Laws.Rows
import Derived.Defers
import Derived.Recover
import Derived.Deep.RegionHeld3
import Derived.Deep.AppendLies
import Derived.Deep.RegionLaw
import Derived.RegionDies
import Derived.Deep.Cut
/- What spec.Same answers of any two jobs. -/
namespace Go.Proofs.YtbilkeadhflibaaGreatDoor.Job
open Go.RowKit Go.Proofs.YtbilkeadhflibaaGreatDoor.Wire Go.Proofs.YtbilkeadhflibaaGreatDoor.Vec Go.Proofs.YtbilkeadhflibaaGreatDoor.Sel

/-- Are three numbers the same? -/
def same3 (a b c x y z : Int) : Bool := a == x && b == y && c == z
theorem equal_num (d : Nat) (a0 a1 a2 b0 b1 b2 : Int) (w : World) :
    (Op.equalIn (d + 2) 87 (.agg #[.int .i64 a0, .int .i64 a1, .int .i64 a2]) (.agg #[.int .i64 b0, .int .i64 b1, .int .i64 b2])).run Tryz.prog w = .ok (same3 a0 a1 a2 b0 b1 b2) w := by
  have hu : Tryz.prog.underlying 87 = some (.array 3 3) := by kernel_rfl
  obtain ⟨i, hi⟩ : ∃ i, Tryz.prog.info? 3 = some i := Option.isSome_iff_exists.1 (by kernel_rfl)
  have hc : Tryz.prog.cellsOf 3 = 1 := by kernel_rfl
  have p0 : ∀ x0 x1 x2 : Int, (part 3 #[.int .i64 x0, .int .i64 x1, .int .i64 x2] 0).run Tryz.prog w = .ok (.int .i64 x0) w := fun _ _ _ => by kernel_rfl
  have p1 : ∀ x0 x1 x2 : Int, (part 3 #[.int .i64 x0, .int .i64 x1, .int .i64 x2] 1).run Tryz.prog w = .ok (.int .i64 x1) w := fun _ _ _ => by kernel_rfl
  have p2 : ∀ x0 x1 x2 : Int, (part 3 #[.int .i64 x0, .int .i64 x1, .int .i64 x2] 2).run Tryz.prog w = .ok (.int .i64 x2) w := fun _ _ _ => by kernel_rfl
  have he : ∀ a b : Int, (Op.equalIn (d + 1) 3 (.int .i64 a) (.int .i64 b)).run Tryz.prog w = .ok (a == b) w := fun a b => run_equalIn_int w d 3 .i64 .i64 a b Tryz.underlying3
  rw [run_equalIn_array w (d + 1) _ _ hu hi, hc]
  have hr : List.range 3 = [0, 1, 2] := rfl
  rw [hr]
  unfold same3
  simp only [Op.eqItems, Sem.run_bind, Nat.mul_one, p0, he, Result.andThen_ok]
  obtain ⟨r0, e0⟩ : ∃ r, (a0 == b0) = r := ⟨_, rfl⟩
  obtain ⟨r1, e1⟩ : ∃ r, (a1 == b1) = r := ⟨_, rfl⟩
  obtain ⟨r2, e2⟩ : ∃ r, (a2 == b2) = r := ⟨_, rfl⟩
  rw [e0, e1, e2]
  cases r0 <;> simp only [Bool.not_false, Bool.not_true, if_true, if_false, Bool.false_eq_true, Sem.run_pure, Sem.run_bind, p1, he, e1, Result.andThen_ok, Bool.false_and, Bool.true_and]
  cases r1 <;> simp only [Bool.not_false, Bool.not_true, if_true, if_false, Bool.false_eq_true, Sem.run_pure, Sem.run_bind, p2, he, e2, Result.andThen_ok, Bool.false_and, Bool.true_and]
  cases r2 <;> simp only [Bool.not_false, Bool.not_true, if_true, if_false, Bool.false_eq_true, Sem.run_pure]
theorem eql_num (a0 a1 a2 b0 b1 b2 : Int) (w : World) : (binOp .eql 87 (.agg #[.int .i64 a0, .int .i64 a1, .int .i64 a2]) (.agg #[.int .i64 b0, .int .i64 b1, .int .i64 b2])).run Tryz.prog w = .ok (.bool (same3 a0 a1 a2 b0 b1 b2)) w := by
  simp only [binOp]
  simp [Op.equal, Op.maxDepth, equal_num 9998 a0 a1 a2 b0 b1 b2 w]
theorem eql_vec (a0 a1 a2 a3 b0 b1 b2 b3 : Int) (w : World) : (binOp .eql 24 (.agg #[.int .u64 a0, .int .u64 a1, .int .u64 a2, .int .u64 a3]) (.agg #[.int .u64 b0, .int .u64 b1, .int .u64 b2, .int .u64 b3])).run Tryz.prog w = .ok (.bool (Vec.same a0 a1 a2 a3 b0 b1 b2 b3)) w := by
  simp only [binOp]
  simp [Op.equal, Op.maxDepth, equal_vec 9998 a0 a1 a2 a3 b0 b1 b2 b3 w]
theorem sz9 : (Tryz.prog.info? 27).map (·.size) = some 9 := by kernel_rfl

instance decV4 : DecidableEq V4 := inferInstanceAs (DecidableEq (Nat × Nat × Nat × Nat))
instance decTm : DecidableEq (List Tm) := inferInstance
instance decN3 : DecidableEq (Int × Int × Int) := inferInstance
instance decBA : DecidableEq ByteArray := inferInstance
instance decJ1 : DecidableEq ((Int × Int × Int) × List Tm) := instDecidableEqProd
instance decJ2 : DecidableEq (V4 × (Int × Int × Int) × List Tm) := instDecidableEqProd
instance decJb : DecidableEq Jb := instDecidableEqProd
/-- Are two jobs the same, by their parts? -/
def eqJ (x y : Jb) : Bool :=
  (path x).toList == (path y).toList && (Vec.same (am (dem x) 0) (am (dem x) 1) (am (dem x) 2) (am (dem x) 3) (am (dem y) 0) (am (dem y) 1) (am (dem y) 2) (am (dem y) 3) &&
    (same3 (cou x) (pri x) (tik x) (cou y) (pri y) (tik y) && decide (terms x = terms y)))
theorem eqJ_iff {x y : Jb} : eqJ x y = decide (x = y) := by
  rw [Bool.eq_iff_iff, decide_eq_true_iff]
  unfold eqJ same3
  simp only [Bool.and_eq_true, beq_iff_eq, same_iff, decide_eq_true_iff]
  constructor
  · rintro ⟨h1, ⟨d0, d1, d2, d3⟩, ⟨⟨h3, h4⟩, h5⟩, h6⟩
    refine jb_ext (list_eq_of_toList h1) (am_ext fun k hk => ?_) h3 h4 h5 h6
    rcases lt4 hk with rfl | rfl | rfl | rfl <;> omega
  · rintro rfl
    exact ⟨rfl, ⟨rfl, rfl, rfl, rfl⟩, ⟨⟨rfl, rfl⟩, rfl⟩, rfl⟩

set_option maxRecDepth 100000 in
set_option maxHeartbeats 4000000 in
theorem same9 (p q : ByteArray) (a0 a1 a2 a3 n m k b0 b1 b2 b3 n' m' k' : Int) (u v : Value) (se : Bool) (w : World)
    (HS : ∀ W, Below w.heap.size w W → Hid (Calls Tryz.prog 48 #[u, v] W fun e w' => e = .returned (.bool se) ∧ Below W.heap.size W w')) :
    Calls Tryz.prog 21 #[val9 p a0 a1 a2 a3 n m k u, val9 q b0 b1 b2 b3 n' m' k' v] w fun e w' => e = .returned (.bool (p.toList == q.toList && (Vec.same a0 a1 a2 a3 b0 b1 b2 b3 && (same3 n m k n' m' k' && se)))) ∧ Below w.heap.size w w' := by
  have HN := fun W => Lib.hid (numbersOf9 p a0 a1 a2 a3 n m k u W)
  have HN' := fun W => Lib.hid (numbersOf9 q b0 b1 b2 b3 n' m' k' v W)
  have EV := eql_vec a0 a1 a2 a3 b0 b1 b2 b3
  have EN := eql_num n m k n' m' k'
  obtain ⟨pe, hpe⟩ : ∃ b, (p.toList == q.toList) = b := ⟨_, rfl⟩
  obtain ⟨de, hde⟩ : ∃ b, Vec.same a0 a1 a2 a3 b0 b1 b2 b3 = b := ⟨_, rfl⟩
  obtain ⟨ne, hne⟩ : ∃ b, same3 n m k n' m' k' = b := ⟨_, rfl⟩
  rw [hde] at EV
  rw [hne] at EN
  rw [hpe, hde, hne]
  unfold val9 at HN HN' ⊢
  go_enter Tryz.func21, Tryz.ntmps21
  go_upto_region 1 with fail
  obtain ⟨W, hW⟩ : ∃ W, W = (w.alloc (box9 p a0 a1 a2 a3 n m k u)).alloc (box9 q b0 b1 b2 b3 n' m' k' v) := ⟨_, rfl⟩
  have hA : W.heap[w.heap.size]? = some (box9 p a0 a1 a2 a3 n m k u) := by
    rw [hW, heap_alloc_old _ _ (by simp)]
    exact heap_alloc_new _ _
  have hB : W.heap[w.heap.size + 1]? = some (box9 q b0 b1 b2 b3 n' m' k' v) := by rw [hW]; exact heap_alloc2_new _ _ _
  have hb : Below w.heap.size w W := by rw [hW]; exact ((Below.refl _ _).alloc (Nat.le_refl _) _).alloc (by simp) _
  unfold box9 at hW
  rw [← hW]
  clear hW
  obtain ⟨⟨c0, c1, c2, c3, c4, c5, c6, c7, c8⟩, _⟩ := cells9 hA
  obtain ⟨⟨d0, d1, d2, d3, d4, d5, d6, d7, d8⟩, _⟩ := cells9 hB
  have lA := (Array.getElem?_eq_some_iff.1 hA).1
  have lB := (Array.getElem?_eq_some_iff.1 hB).1
  have C0 := Quiet.cell lA c0
  have C1 := Quiet.cell lA c1
  have C2 := Quiet.cell lA c2
  have C3 := Quiet.cell lA c3
  have C4 := Quiet.cell lA c4
  have C8 := Quiet.cell lA c8
  have D0 := Quiet.cell lB d0
  have D1 := Quiet.cell lB d1
  have D2 := Quiet.cell lB d2
  have D3 := Quiet.cell lB d3
  have D4 := Quiet.cell lB d4
  have D8 := Quiet.cell lB d8
  clear c0 c1 c2 c3 c4 c5 c6 c7 c8 d0 d1 d2 d3 d4 d5 d6 d7 d8
  unfold box9 at hA hB
  refine Quiet.region (by kernel_rfl) (by kernel_rfl) ?_
  cases pe
  · repeat (first | go_big_quiet_skip | (go_big_quiet_want; first | (refine Whole.quiet_load _ 27 rfl _ _ _ rfl hA Tryz.underlying27 rfl sz9 ?_; simp only [Act.put, List.setIfInBounds_toArray, List.set_cons_succ, List.set_cons_zero]; go_big_quiet_on) | (refine Whole.quiet_load _ 27 rfl _ _ _ rfl hB Tryz.underlying27 rfl sz9 ?_; simp only [Act.put, List.setIfInBounds_toArray, List.set_cons_succ, List.set_cons_zero]; go_big_quiet_on) | (refine Whole.quiet_bin .eql _ _ 24 24 rfl _ _ _ rfl rfl (by kernel_rfl) EV ?_; simp only [Act.put, List.setIfInBounds_toArray, List.set_cons_succ, List.set_cons_zero]; go_big_quiet_on) | (refine Whole.quiet_bin .eql _ _ 87 87 rfl _ _ _ rfl rfl (by kernel_rfl) EN ?_; simp only [Act.put, List.setIfInBounds_toArray, List.set_cons_succ, List.set_cons_zero]; go_big_quiet_on) | (go_big_quiet_op; first | go_big_quiet_on | go_big_quiet_call (first | (go_at_call 47; first | (with_reducible exact Quiet.calls (HN _).out) | (with_reducible exact Quiet.calls (HN' _).out)) | (go_at_call 48; (with_reducible exact Quiet.calls (HS _ (hb.trans ((Quiet.Behind.below _).mono hb.size))).out))))))
    refine wpQuiet_nil ?_
    rintro _ ⟨pq, rfl⟩
    have hbb := hb.trans (pq.below.mono hb.size)
    clear hA hB C0 C1 C2 C3 C4 C8 D0 D1 D2 D3 D4 D8 EV EN
    go_wp2
    go_ret
    exact ⟨rfl, hbb⟩
  · cases de
    · repeat (first | go_big_quiet_skip | (go_big_quiet_want; first | (refine Whole.quiet_load _ 27 rfl _ _ _ rfl hA Tryz.underlying27 rfl sz9 ?_; simp only [Act.put, List.setIfInBounds_toArray, List.set_cons_succ, List.set_cons_zero]; go_big_quiet_on) | (refine Whole.quiet_load _ 27 rfl _ _ _ rfl hB Tryz.underlying27 rfl sz9 ?_; simp only [Act.put, List.setIfInBounds_toArray, List.set_cons_succ, List.set_cons_zero]; go_big_quiet_on) | (refine Whole.quiet_bin .eql _ _ 24 24 rfl _ _ _ rfl rfl (by kernel_rfl) EV ?_; simp only [Act.put, List.setIfInBounds_toArray, List.set_cons_succ, List.set_cons_zero]; go_big_quiet_on) | (refine Whole.quiet_bin .eql _ _ 87 87 rfl _ _ _ rfl rfl (by kernel_rfl) EN ?_; simp only [Act.put, List.setIfInBounds_toArray, List.set_cons_succ, List.set_cons_zero]; go_big_quiet_on) | (go_big_quiet_op; first | go_big_quiet_on | go_big_quiet_call (first | (go_at_call 47; first | (with_reducible exact Quiet.calls (HN _).out) | (with_reducible exact Quiet.calls (HN' _).out)) | (go_at_call 48; (with_reducible exact Quiet.calls (HS _ (hb.trans ((Quiet.Behind.below _).mono hb.size))).out))))))
      refine wpQuiet_nil ?_
      rintro _ ⟨pq, rfl⟩
      have hbb := hb.trans (pq.below.mono hb.size)
      clear hA hB C0 C1 C2 C3 C4 C8 D0 D1 D2 D3 D4 D8 EV EN
      go_wp2
      go_ret
      exact ⟨rfl, hbb⟩
    · cases ne
      · repeat (first | go_big_quiet_skip | (go_big_quiet_want; first | (refine Whole.quiet_load _ 27 rfl _ _ _ rfl hA Tryz.underlying27 rfl sz9 ?_; simp only [Act.put, List.setIfInBounds_toArray, List.set_cons_succ, List.set_cons_zero]; go_big_quiet_on) | (refine Whole.quiet_load _ 27 rfl _ _ _ rfl hB Tryz.underlying27 rfl sz9 ?_; simp only [Act.put, List.setIfInBounds_toArray, List.set_cons_succ, List.set_cons_zero]; go_big_quiet_on) | (refine Whole.quiet_bin .eql _ _ 24 24 rfl _ _ _ rfl rfl (by kernel_rfl) EV ?_; simp only [Act.put, List.setIfInBounds_toArray, List.set_cons_succ, List.set_cons_zero]; go_big_quiet_on) | (refine Whole.quiet_bin .eql _ _ 87 87 rfl _ _ _ rfl rfl (by kernel_rfl) EN ?_; simp only [Act.put, List.setIfInBounds_toArray, List.set_cons_succ, List.set_cons_zero]; go_big_quiet_on) | (go_big_quiet_op; first | go_big_quiet_on | go_big_quiet_call (first | (go_at_call 47; first | (with_reducible exact Quiet.calls (HN _).out) | (with_reducible exact Quiet.calls (HN' _).out)) | (go_at_call 48; (with_reducible exact Quiet.calls (HS _ (hb.trans ((Quiet.Behind.below _).mono hb.size))).out))))))
        refine wpQuiet_nil ?_
        rintro _ ⟨pq, rfl⟩
        have hbb := hb.trans (pq.below.mono hb.size)
        clear hA hB C0 C1 C2 C3 C4 C8 D0 D1 D2 D3 D4 D8 EV EN
        go_wp2
        go_ret
        exact ⟨rfl, hbb⟩
      · repeat (first | go_big_quiet_skip | (go_big_quiet_want; first | (refine Whole.quiet_load _ 27 rfl _ _ _ rfl hA Tryz.underlying27 rfl sz9 ?_; simp only [Act.put, List.setIfInBounds_toArray, List.set_cons_succ, List.set_cons_zero]; go_big_quiet_on) | (refine Whole.quiet_load _ 27 rfl _ _ _ rfl hB Tryz.underlying27 rfl sz9 ?_; simp only [Act.put, List.setIfInBounds_toArray, List.set_cons_succ, List.set_cons_zero]; go_big_quiet_on) | (refine Whole.quiet_bin .eql _ _ 24 24 rfl _ _ _ rfl rfl (by kernel_rfl) EV ?_; simp only [Act.put, List.setIfInBounds_toArray, List.set_cons_succ, List.set_cons_zero]; go_big_quiet_on) | (refine Whole.quiet_bin .eql _ _ 87 87 rfl _ _ _ rfl rfl (by kernel_rfl) EN ?_; simp only [Act.put, List.setIfInBounds_toArray, List.set_cons_succ, List.set_cons_zero]; go_big_quiet_on) | (go_big_quiet_op; first | go_big_quiet_on | go_big_quiet_call (first | (go_at_call 47; first | (with_reducible exact Quiet.calls (HN _).out) | (with_reducible exact Quiet.calls (HN' _).out)) | (go_at_call 48; (with_reducible exact Quiet.calls (HS _ (hb.trans ((Quiet.Behind.below _).mono hb.size))).out))))))
        refine wpQuiet_nil ?_
        rintro _ ⟨pq, rfl⟩
        have hbb := hb.trans (pq.below.mono hb.size)
        clear hA hB C0 C1 C2 C3 C4 C8 D0 D1 D2 D3 D4 D8 EV EN
        go_wp2
        go_ret
        exact ⟨rfl, hbb⟩
theorem same_any (x y : Jb) (u v : Value) (w : World) (hu : TRow w u (terms x)) (hv : TRow w v (terms y)) (hl : Sel.Fair (terms x)) :
    Calls Tryz.prog 21 #[valJ x u, valJ y v] w fun e w' => e = .returned (.bool (decide (x = y))) ∧ Below w.heap.size w w' := by
  rw [← eqJ_iff, valJ_eq, valJ_eq]
  exact same9 _ _ _ _ _ _ _ _ _ _ _ _ _ _ _ _ u v (decide (terms x = terms y)) w (fun W h => Lib.hid (Sel.same_any u v (terms x) (terms y) W (hu.below h) (hv.below h) hl))
end Go.Proofs.YtbilkeadhflibaaGreatDoor.Job

/- What vec.Put and vec.Get answer: the four amounts' bytes, one behind another; and the amounts that stand somewhere. -/
namespace Go.Proofs.YtbilkeadhflibaaGreatDoor.Vec
open Go.RowKit Go.Proofs.YtbilkeadhflibaaGreatDoor.Wire

set_option maxRecDepth 100000 in
set_option maxHeartbeats 1000000 in
theorem put1 (T k x : Nat) (hx : x < 18446744073709551616) (s : ByteArray) (hs : s.size ≤ 1000) (wr : World) (ht : wr.heap[T]? = some (.cells #[.string s] 9)) :
    Calls Tryz.prog 94 #[.int .i64 k, .int .u64 x, .pointer (some ⟨T, 0, none⟩)] wr fun e w' => e = .returned (.bool true) ∧ ∃ w1, Below wr.heap.size wr w1 ∧ w' = w1.setCell ⟨T, 0, none⟩ (.string (s ++ str (putL x))) := by
  have c := cell_at (i := 0) ht rfl
  have f := frozen_at (i := 0) ht
  have hT : T < wr.heap.size := World.block_lt_of_cell? wr ⟨T, 0, none⟩ c
  clear ht
  have HP := Lib.hid (put_any x hx)
  have hl : (str (putL x)).size ≤ 10 := by rw [str_size]; exact putL_ten hx
  obtain ⟨p, hp⟩ : ∃ p, p = str (putL x) := ⟨_, rfl⟩
  rw [← hp] at hl HP
  rw [← hp]
  clear hp
  have hsum : s.size + p.size ≤ 9223372036854775807 := by omega
  go_enter Tryz.func94, Tryz.ntmps94
  go_wp2_with fail
  go_region_with (go_at_call 51; (with_reducible refine (HP.out _).mono ?_); rintro e w1 ⟨rfl, hb⟩; have c1 := cell_later hb (by simpa using c); have f1 := (hb.frozen (p := ⟨T, 0, none⟩) (by simpa using hT)).trans f)
  all_goals
    go_wp2
    go_ret
    exact ⟨rfl, w1, (Below.refl _ _).drew.trans hb, rfl⟩

/-- The bytes of the first k amounts. -/
def putV (x : Nat → Nat) : Nat → List UInt8
  | 0 => []
  | k + 1 => putV x k ++ putL (x k)
theorem putV_length {x : Nat → Nat} (hx : ∀ i, i < 4 → x i < 18446744073709551616) : ∀ k, k ≤ 4 → (putV x k).length ≤ 10 * k
  | 0, _ => Nat.le_refl _
  | k + 1, hk => by
    have := putV_length hx k (by omega)
    have := putL_ten (hx k (by omega))
    rw [putV, List.length_append]
    omega
theorem str_append (a b : List UInt8) : str a ++ str b = str (a ++ b) := ByteArray.mk_append_mk a b
def PutLaid (w0 : World) (H : Nat) (x : Nat → Nat) (k : Nat) (w : World) : Prop :=
  Below H w0 w ∧ w.heap[H + 1]? = some (.cells #[.string (str (putV x k))] 9)
theorem put_step {w0 : World} {H : Nat} {x : Nat → Nat} (hx : ∀ i, i < 4 → x i < 18446744073709551616) (k : Nat) (hk : k < 4) (wr : World) (h : PutLaid w0 H x k wr) :
    Calls Tryz.prog 94 (#[.int .i64 k, .int .u64 (x k)] ++ #[.pointer (some ⟨H + 1, 0, none⟩)]) wr (Step (PutLaid w0 H x (k + 1)) (fun _ => False)) := by
  obtain ⟨hb, ht⟩ := h
  have hl : (str (putV x k)).size ≤ 1000 := by rw [str_size]; have := putV_length hx k (by omega); omega
  have hlt : H + 1 < wr.heap.size := World.block_lt_of_cell? wr ⟨H + 1, 0, none⟩ (cell_at ht rfl)
  refine (put1 (H + 1) k (x k) (hx k hk) _ hl wr ht).mono ?_
  rintro e w' ⟨rfl, w1, hb1, rfl⟩
  have ht1 := (hb1.block (H + 1) hlt).trans ht
  refine .inl ⟨rfl, (hb.trans (hb1.mono (by omega))).setCell (by simp) _, ?_⟩
  have := heap_setCell_same w1 (H + 1) 0 _ _ (.string (str (putV x k) ++ str (putL (x k)))) ht1
  rw [str_append] at this ⊢
  exact this

set_option maxRecDepth 100000 in
set_option maxHeartbeats 1000000 in
theorem putV_any (x : Nat → Nat) (hx : ∀ i, i < 4 → x i < 18446744073709551616) (w : World) :
    Calls Tryz.prog 50 #[vec (x 0) (x 1) (x 2) (x 3)] w fun e w' => e = .returned (.string (str (putV x 4))) ∧ Below w.heap.size w w' := by
  have hcl : ∀ (args : Array Value) (w : World), (callFunc 94 args).run Tryz.prog w = .ok (.enter 94 args) w := fun _ _ => by kernel_rfl
  have hat : PutLaid w w.heap.size x 0 (((w.alloc (box (x 0) (x 1) (x 2) (x 3))).alloc (.cells #[.string ⟨#[]⟩] 9)).alloc (box (x 0) (x 1) (x 2) (x 3))) := by
    refine ⟨((((Below.refl _ _).alloc (Nat.le_refl _) _).alloc (by simp) _).alloc (by simp; omega) _), ?_⟩
    rw [heap_alloc_old _ _ (by simp)]
    exact heap_alloc2_new _ _ _
  have HE := Lib.hid (each_any (x 0) (x 1) (x 2) (x 3) 94 #[.pointer (some ⟨w.heap.size + 1, 0, none⟩)] (PutLaid w w.heap.size x) (fun _ => False) _ hcl hat
    (put_step hx 0 (by omega)) (put_step hx 1 (by omega)) (put_step hx 2 (by omega)) (put_step hx 3 (by omega)))
  clear hcl hat
  obtain ⟨r, hr⟩ : ∃ r, r = str (putV x 4) := ⟨_, rfl⟩
  rw [← hr]
  have HR := Lib.hid hr
  clear hr
  unfold vec
  unfold vec box at HE
  go_enter Tryz.func50, Tryz.ntmps50
  go_wp2_with fail
  refine HE.out.mono ?_
  clear HE
  rintro e w1 (⟨rfl, hb, hc⟩ | ⟨rfl, hf⟩)
  · rw [← HR.out] at hc
    have c := cell_at (i := 0) hc rfl
    have f := frozen_at (i := 0) hc
    have HD := Lib.hid (cell_at (i := 0) (heap_setCell_same _ _ 0 _ _ (.string r) hc) rfl)
    have HB := Lib.hid (hb.setCell (p := ⟨w.heap.size + 1, 0, none⟩) (by simp) (.string r))
    clear hc hb
    go_wp2
    refine bodyPost_ret (v := .string r) (by simp [results, Tryz.results50, go_sem, HD.out]) rfl ⟨rfl, HB.out⟩
  · exact hf.elim
end Go.Proofs.YtbilkeadhflibaaGreatDoor.Vec

/- The forms of jobs as bytes and as words: plain functions, no program (P11.2, P11.3). -/
namespace Go.Proofs.YtbilkeadhflibaaGreatDoor.Job
open Go.RowKit Go.Proofs.YtbilkeadhflibaaGreatDoor.Wire Go.Proofs.YtbilkeadhflibaaGreatDoor.Vec Go.Proofs.YtbilkeadhflibaaGreatDoor.Sel

/-- The three numbers of a job, by their places. -/
def numJ (x : Jb) : Nat → Nat
  | 0 => (cou x).toNat
  | 1 => (pri x).toNat
  | _ => (tik x).toNat
theorem numJ_lt {x : Jb} (h : inB (cou x) (pri x) (tik x) = true) (j : Nat) : numJ x j ≤ 100 := by
  have := inB_of h
  unfold numJ
  split <;> omega
def baseJ (x : Jb) : ByteArray := str (putL (path x).size) ++ path x ++ str (putV (am (dem x)) 4)
def accJ (x : Jb) : Nat → ByteArray
  | 0 => baseJ x
  | k + 1 => accJ x k ++ str (putL (numJ x k))
/-- Put: P11.2. -/
def putJ (x : Jb) : ByteArray := if checkJ x = 0 then accJ x 3 ++ putS (terms x) else ⟨#[]⟩
theorem str_data_list (l : List UInt8) : (str l).data.toList = l := rfl
theorem app_list (a b : ByteArray) : (a ++ b).data.toList = a.data.toList ++ b.data.toList := by simp
theorem size_app (a b : ByteArray) : (a ++ b).size = a.size + b.size := by
  rw [← size_list, app_list, List.length_append, size_list, size_list]
theorem size_str (l : List UInt8) : (str l).size = l.length := by rw [← size_list]; rfl
theorem putL_le {u : Nat} (h : u < 18446744073709551616) : (putL u).length ≤ 10 := putL_ten h
theorem baseJ_size {x : Jb} (h : FairJ x) : (baseJ x).size ≤ (path x).size + 50 := by
  unfold baseJ
  rw [size_app, size_app, size_str, size_str]
  have h1 := putL_le (u := (path x).size) (by have := h.path; omega)
  have h2 := putV_length h.dem 4 (Nat.le_refl _)
  omega
theorem accJ_size {x : Jb} (h : FairJ x) (hb : inB (cou x) (pri x) (tik x) = true) : ∀ j, j ≤ 3 → (accJ x j).size ≤ (path x).size + 50 + 10 * j
  | 0, _ => baseJ_size h
  | j + 1, hj => by
    have := accJ_size h hb j (by omega)
    have h1 := numJ_lt hb j
    have h2 := putL_le (u := numJ x j) (by omega)
    show (accJ x j ++ str (putL (numJ x j))).size ≤ _
    rw [size_app, size_str]
    omega
end Go.Proofs.YtbilkeadhflibaaGreatDoor.Job

/- What spec.Put answers of any job. -/
namespace Go.Proofs.YtbilkeadhflibaaGreatDoor.Job
open Go.RowKit Go.Proofs.YtbilkeadhflibaaGreatDoor.Wire Go.Proofs.YtbilkeadhflibaaGreatDoor.Vec Go.Proofs.YtbilkeadhflibaaGreatDoor.Sel

theorem index3_0 (a b c : Int) (w : World) : (Instr.index 87 (.agg #[.int .i64 a, .int .i64 b, .int .i64 c]) (.int .i64 0)).run Tryz.prog w = .ok (.int .i64 a) w := by kernel_rfl
theorem index3_1 (a b c : Int) (w : World) : (Instr.index 87 (.agg #[.int .i64 a, .int .i64 b, .int .i64 c]) (.int .i64 1)).run Tryz.prog w = .ok (.int .i64 b) w := by kernel_rfl
theorem index3_2 (a b c : Int) (w : World) : (Instr.index 87 (.agg #[.int .i64 a, .int .i64 b, .int .i64 c]) (.int .i64 2)).run Tryz.prog w = .ok (.int .i64 c) w := by kernel_rfl
theorem index3_any (g : Nat → Nat) (j : Nat) (hj : j < 3) (w : World) : (Instr.index 87 (.agg #[.int .i64 (g 0), .int .i64 (g 1), .int .i64 (g 2)]) (.int .i64 j)).run Tryz.prog w = .ok (.int .i64 (g j)) w := by
  have : j = 0 ∨ j = 1 ∨ j = 2 := by omega
  rcases this with rfl | rfl | rfl
  · exact index3_0 _ _ _ w
  · exact index3_1 _ _ _ w
  · exact index3_2 _ _ _ w

/-- What is known of a job that may be: its numbers are small. -/
theorem nums_of {x : Jb} (h : inB (cou x) (pri x) (tik x) = true) : cou x = (numJ x 0 : Nat) ∧ pri x = (numJ x 1 : Nat) ∧ tik x = (numJ x 2 : Nat) := by
  have := inB_of h
  show cou x = (cou x).toNat ∧ pri x = (pri x).toNat ∧ tik x = (tik x).toNat
  omega
theorem putJ_no {x : Jb} (h : checkJ x ≠ 0) : putJ x = ⟨#[]⟩ := if_neg h
theorem putJ_yes {x : Jb} (h : checkJ x = 0) : putJ x = accJ x 3 ++ putS (terms x) := if_pos h

set_option maxRecDepth 100000 in
set_option maxHeartbeats 4000000 in
theorem put_jb (x : Jb) (s : Value) (w : World) (hf : FairJ x) (hs : TRow w s (terms x)) :
    Calls Tryz.prog 22 #[valJ x s] w fun e w' => e = .returned (.string (putJ x)) ∧ Below w.heap.size w w' := by
  have HC := Lib.hid (fun W (h : Below w.heap.size w W) => check_any x s W hf (hs.below h))
  obtain ⟨r, hr⟩ : ∃ r, r = checkJ x := ⟨_, rfl⟩
  rw [← hr] at HC
  by_cases h0 : r = 0
  · have hc : checkJ x = 0 := by rw [← hr]; exact h0
    have hB := (checkJ_ok.1 hc).2.1
    obtain ⟨n0, n1, n2⟩ := nums_of hB
    have HE := Lib.hid (putJ_yes hc)
    have HT := Lib.hid (fun W => putText_any (path x) (by have := hf.path; omega) W)
    have HV := Lib.hid (fun W => putV_any (am (dem x)) hf.dem W)
    have HN := Lib.hid (fun W => numbersOf9 (path x) (am (dem x) 0) (am (dem x) 1) (am (dem x) 2) (am (dem x) 3) (cou x) (pri x) (tik x) s W)
    have HS := Lib.hid (fun W (h : Below w.heap.size w W) => put_sel s (terms x) W (hs.below h) hf.terms)
    have HP := Lib.hid (fun j W => Wire.put_any (numJ x j) (by have := numJ_lt hB j; omega) W)
    have HF : Hid (∀ j, j ≤ 3 → (accJ x j).size ≤ 140737488356000) := Lib.hid fun j hj => by
      have h1 := accJ_size hf hB j hj
      have h2 := hf.path
      omega
    have HL : Hid (∀ j, (str (putL (numJ x j))).size ≤ 10) := Lib.hid fun j => by
      rw [size_str]
      exact putL_le (by have := numJ_lt hB j; omega)
    have HA : Hid (∀ j, accJ x j ++ str (putL (numJ x j)) = accJ x (j + 1)) := Lib.hid fun j => rfl
    have HZ := Lib.hid (putS_small (terms x))
    have HW : Hid (∀ j, IntKind.u64.wrap (numJ x j : Int) = (numJ x j : Int)) := Lib.hid fun j => by
      have := numJ_lt hB j
      rw [IntKind.wrap_u64]
      omega
    have hbase : str (putL (path x).size) ++ path x ++ str (putV (am (dem x)) 4) = accJ x 0 := rfl
    have hsz : (str (putL (path x).size) ++ path x).size + (str (putV (am (dem x)) 4)).size ≤ 9223372036854775807 := by
      have h1 := HF.out 0 (by omega)
      rw [← hbase, size_app] at h1
      omega
    rw [HE.out]
    rw [valJ_eq] at HC ⊢
    rw [n0, n1, n2] at HC HN ⊢
    obtain ⟨G, hG⟩ : ∃ G, G = numJ x := ⟨_, rfl⟩
    rw [← hG] at HC HN HP HL HA HW ⊢
    obtain ⟨F, hFF⟩ : ∃ F, F = accJ x := ⟨_, rfl⟩
    rw [← hFF] at HF HA hbase ⊢
    obtain ⟨Z, hZ⟩ : ∃ Z, Z = putS (terms x) := ⟨_, rfl⟩
    rw [← hZ] at HS HZ ⊢
    obtain ⟨PT, hPT⟩ : ∃ PT, PT = str (putL (path x).size) ++ path x := ⟨_, rfl⟩
    rw [← hPT] at HT hsz hbase
    obtain ⟨PV, hPV⟩ : ∃ PV, PV = str (putV (am (dem x)) 4) := ⟨_, rfl⟩
    rw [← hPV] at HV hsz hbase
    obtain ⟨p, hp⟩ : ∃ p, p = path x := ⟨_, rfl⟩
    rw [← hp] at HC HT HN ⊢
    obtain ⟨A0, e0⟩ : ∃ a : Int, a = am (dem x) 0 := ⟨_, rfl⟩
    obtain ⟨A1, e1⟩ : ∃ a : Int, a = am (dem x) 1 := ⟨_, rfl⟩
    obtain ⟨A2, e2⟩ : ∃ a : Int, a = am (dem x) 2 := ⟨_, rfl⟩
    obtain ⟨A3, e3⟩ : ∃ a : Int, a = am (dem x) 3 := ⟨_, rfl⟩
    rw [← e0, ← e1, ← e2, ← e3] at HC HV HN ⊢
    have hadd0 : ∀ w, Sem.run Tryz.prog (Op.stringOp .add PT PV) w = .ok (.string (F 0)) w := fun w => by rw [← hbase]; exact run_string_add_sum w PT PV hsz
    clear hr hc hB n0 n1 n2 HE hG hFF hZ hPT hPV hp e0 e1 e2 e3 hbase hsz hs hf
    subst h0
    unfold val9 at HC HN ⊢
    unfold vec at HV
    go_enter Tryz.func22, Tryz.ntmps22
    go_wp2_with fail
    refine (HC.out _ (grew w _)).mono ?_
    rintro e w1 ⟨rfl, hb1⟩
    have hA : w1.heap[w.heap.size]? = some (box9 p A0 A1 A2 A3 (G 0) (G 1) (G 2) s) := (hb1.block _ (by simp)).trans (heap_alloc_new w _)
    have HB1 := Lib.hid (grows (grew w _) hb1)
    clear hb1
    obtain ⟨⟨c0, c1, c2, c3, c4, c5, c6, c7, c8⟩, _⟩ := cells9 hA
    have lA := (Array.getElem?_eq_some_iff.1 hA).1
    have C0 := Quiet.cell lA c0
    have C1 := Quiet.cell lA c1
    have C2 := Quiet.cell lA c2
    have C3 := Quiet.cell lA c3
    have C4 := Quiet.cell lA c4
    have HAx := Lib.hid hA
    clear hA lA c0 c1 c2 c3 c4 c5 c6 c7 c8
    go_upto_region 3 with fail
    refine Quiet.region (by kernel_rfl) (by kernel_rfl) ?_
    repeat (go_big_quiet_step (first | (go_at_call 49; (with_reducible exact Quiet.calls (HT.out _))) | (go_at_call 50; (with_reducible exact Quiet.calls (HV.out _)))))
    refine wpQuiet_nil ?_
    rintro _ ⟨pq, rfl⟩
    have hq := pq.below
    generalize pq.world = w2 at hq ⊢
    have hA : w2.heap[w.heap.size]? = some (box9 p A0 A1 A2 A3 (G 0) (G 1) (G 2) s) := (hq.block _ (Array.getElem?_eq_some_iff.1 HAx.out).1).trans HAx.out
    have HB2 := Lib.hid (grows HB1.out hq)
    clear hq C0 C1 C2 C3 C4 HAx HB1
    obtain ⟨⟨c0, c1, c2, c3, c4, c5, c6, c7, c8⟩, _⟩ := cells9 hA
    go_wp2_with fail
    refine (HN.out _).mono ?_
    rintro e w3 ⟨rfl, hb3⟩
    have HB3 := Lib.hid (grows HB2.out hb3)
    have hA3 := (hb3.block _ (Array.getElem?_eq_some_iff.1 hA).1).trans hA
    have HA3 := Lib.hid hA3
    clear hb3 hA hA3 c0 c1 c2 c3 c4 c5 c6 c7 c8 HB2
    go_wp2_with fail
    go_loopw [2, 17] (fun acc i wr => ∃ j : Nat, j ≤ 3 ∧ i = .int .i64 j ∧ acc = .string (F j) ∧ Below w3.heap.size w3 wr) (fun _ i _ => 3 - (intOf i).toNat)
    case atStart => exact ⟨0, Nat.zero_le _, rfl, rfl, Below.refl _ _⟩
    case round =>
      obtain ⟨j, hj, rfl, rfl, hbr⟩ := hrel
      by_cases hlt : j < 3
      · have hltz : (j : Int) < 3 := by omega
        have hix := index3_any G j hlt
        have hw := HW.out j
        have hadd2 : ∀ w, Sem.run Tryz.prog (Op.stringOp .add (F j) (str (putL (G j)))) w = .ok (.string (F (j + 1))) w := fun w => by
          rw [← HA.out]
          exact run_string_add_sum w _ _ (by have := HF.out j (by omega); have := HL.out j; omega)
        have HX := Lib.hid (HP.out j)
        obtain ⟨fx, hfx⟩ : ∃ f, f = str (putL (G j)) := ⟨_, rfl⟩
        rw [← hfx] at HX hadd2
        clear hfx
        go_wp2_with fail
        refine (HX.out _).mono ?_
        rintro e w4 ⟨rfl, hb4⟩
        have hb' := grows hbr hb4
        clear hb4
        go_wp2
        go_roundw
        case rel => exact ⟨j + 1, by omega, by go_num, rfl, hb'⟩
        case measure => simp [intOf]; omega
      · have hj3 : j = 3 := by omega
        subst hj3
        have hA := (hbr.block _ (Array.getElem?_eq_some_iff.1 HA3.out).1).trans HA3.out
        obtain ⟨⟨c0, c1, c2, c3, c4, c5, c6, c7, c8⟩, _⟩ := cells9 hA
        clear hA
        have hadd3 : ∀ w, Sem.run Tryz.prog (Op.stringOp .add (F 3) Z) w = .ok (.string (F 3 ++ Z)) w := fun w => run_string_add_sum w _ _ (by have := HF.out 3 (by omega); have := HZ.out; omega)
        go_wp2_with fail
        refine (HS.out _ (grows HB3.out hbr)).mono ?_
        rintro e w5 ⟨rfl, hb5⟩
        have hb' := grows (grows HB3.out hbr) hb5
        clear hb5
        go_wp2
        go_ret
        exact ⟨rfl, hb'⟩
  · have HE := Lib.hid (putJ_no (x := x) (by rw [← hr]; exact h0))
    have hne : (r != 0) = true := by simpa using h0
    have hne' : (r == 0) = false := by simpa using h0
    rw [valJ_eq] at HC ⊢
    obtain ⟨Z, hZ⟩ : ∃ Z, Z = putJ x := ⟨_, rfl⟩
    rw [← hZ] at HE ⊢
    clear hr hZ hs hf
    unfold val9 at HC ⊢
    go_enter Tryz.func22, Tryz.ntmps22
    go_wp2_with fail
    refine (HC.out _ (grew w _)).mono ?_
    rintro e w1 ⟨rfl, hb1⟩
    have hb' := grows (grew w _) hb1
    clear hb1
    go_wp2
    go_ret
    exact ⟨by rw [HE.out]; rfl, hb'⟩
end Go.Proofs.YtbilkeadhflibaaGreatDoor.Job

/- What spec.withNumbers answers of any job, over any function that tells three numbers. -/
namespace Go.Proofs.YtbilkeadhflibaaGreatDoor.Job
open Go.RowKit Go.Proofs.YtbilkeadhflibaaGreatDoor.Wire Go.Proofs.YtbilkeadhflibaaGreatDoor.Vec Go.Proofs.YtbilkeadhflibaaGreatDoor.Sel

theorem alloc3 (w : World) (a b c : Obj) : (((w.alloc a).alloc b).alloc c).heap[w.heap.size + 1 + 1]? = some c := by
  have h : ((w.alloc a).alloc b).heap.size = w.heap.size + 1 + 1 := by simp
  rw [← h]
  exact heap_alloc_new _ _
def zero9 : Value := val9 ⟨#[]⟩ 0 0 0 0 0 0 0 (.slice none 0 0)
/-- What was told of the function that is handed in. -/
def Said1 (v : Nat) (ok : Bool) (R : World → Prop) (e : Ending) (w' : World) : Prop := e = .returned (.tuple #[.int .u64 v, .bool ok]) ∧ R w'
def Fair3 (H : Nat) (g : FuncId) (cap : Array Value) (v : Nat → Nat) (ok : Nat → Bool) (P : Nat → World → Prop) : Prop :=
  ∀ j, j < 3 → ∀ wr, H ≤ wr.heap.size → P j wr → Calls Tryz.prog g (#[.int .i64 j] ++ cap) wr (Said1 (v j) (ok j) fun w' => Keeps H wr w' ∧ P (j + 1) w')
def good (v : Nat → Nat) (ok : Nat → Bool) (j : Nat) : Bool := ok j && decide (v j ≤ 100)
def With (p : ByteArray) (a0 a1 a2 a3 : Int) (s : Value) (v : Nat → Nat) (ok : Nat → Bool) (P : Nat → World → Prop) (e : Ending) (w' : World) : Prop :=
  ((∀ j, j < 3 → good v ok j = true) ∧ e = .returned (.tuple #[val9 p a0 a1 a2 a3 (v 0) (v 1) (v 2) s, .bool true]) ∧ P 3 w') ∨
  ((∃ j, j < 3 ∧ good v ok j = false ∧ P (j + 1) w') ∧ e = .returned (.tuple #[zero9, .bool false]))

/-- Three numbers as far as they have been told. -/
def up3 (j : Nat) (v : Nat → Nat) (i : Nat) : Int := if i < j then (v i : Int) else 0
def num3 (a b c : Int) : Obj := .cells #[.int .i64 a, .int .i64 b, .int .i64 c] 87
theorem num3_set {w : World} {T j : Nat} {v : Nat → Nat} (hj : j < 3) (h : w.heap[T]? = some (num3 (up3 j v 0) (up3 j v 1) (up3 j v 2))) :
    (w.setCell ⟨T, j, none⟩ (.int .i64 (v j))).heap[T]? = some (num3 (up3 (j + 1) v 0) (up3 (j + 1) v 1) (up3 (j + 1) v 2)) := by
  unfold num3 at h
  rw [heap_setCell_same w T j _ _ (.int .i64 (v j)) h]
  have : j = 0 ∨ j = 1 ∨ j = 2 := by omega
  rcases this with rfl | rfl | rfl <;> rfl
theorem num3_cell {w : World} {T j : Nat} {a b c : Int} (hj : j < 3) (h : w.heap[T]? = some (num3 a b c)) : ∃ u, w.cell? ⟨T, j, none⟩ = some u := by
  have : j = 0 ∨ j = 1 ∨ j = 2 := by omega
  rcases this with rfl | rfl | rfl
  · exact ⟨_, cell_at h rfl⟩
  · exact ⟨_, cell_at h rfl⟩
  · exact ⟨_, cell_at h rfl⟩

set_option maxRecDepth 100000 in
set_option maxHeartbeats 4000000 in
theorem with_any {g : FuncId} {cap : Array Value} (hfn : ∀ (args : Array Value) (w : World), (callFunc g args).run Tryz.prog w = .ok (.enter g args) w)
    {v : Nat → Nat} {ok : Nat → Bool} {P : Nat → World → Prop} (p : ByteArray) (a0 a1 a2 a3 n m k : Int) (s : Value) (w : World)
    (hP : ∀ j a b, Below w.heap.size a b → P j a → P j b) (hsl : ∃ sa sn sc, s = .slice sa sn sc) (st : Fair3 w.heap.size g cap v ok P) (h0 : P 0 w) :
    Calls Tryz.prog 75 #[val9 p a0 a1 a2 a3 n m k s, .func (.func g) #[] cap] w (With p a0 a1 a2 a3 s v ok P) := by
  obtain ⟨sa, sn, sc, rfl⟩ := hsl
  have HST := Lib.hid st
  have HPP := Lib.hid hP
  have H0 : Hid (P 0 (((w.alloc (box9 p a0 a1 a2 a3 n m k (.slice sa sn sc))).alloc (box9 ⟨#[]⟩ 0 0 0 0 0 0 0 (.slice none 0 0))).alloc (num3 0 0 0))) := Lib.hid (hP 0 _ _ ((((Below.refl _ _).alloc (Nat.le_refl _) _).alloc (by simp) _).alloc (by simp; omega) _) h0)
  obtain ⟨H, hH⟩ : ∃ H, H = w.heap.size := ⟨_, rfl⟩
  clear st hP h0
  unfold val9
  unfold box9 num3 at H0
  go_enter Tryz.func75, Tryz.ntmps75
  go_upto_region 2 with fail
  obtain ⟨W, hW⟩ : ∃ W, W = ((w.alloc (box9 p a0 a1 a2 a3 n m k (.slice sa sn sc))).alloc (box9 ⟨#[]⟩ 0 0 0 0 0 0 0 (.slice none 0 0))).alloc (num3 0 0 0) := ⟨_, rfl⟩
  have hA : W.heap[H]? = some (box9 p a0 a1 a2 a3 n m k (.slice sa sn sc)) := by
    rw [hW, hH, heap_alloc_old _ _ (by simp; omega), heap_alloc_old _ _ (by simp)]
    exact heap_alloc_new _ _
  have hZ : W.heap[H + 1]? = some (box9 ⟨#[]⟩ 0 0 0 0 0 0 0 (.slice none 0 0)) := by
    rw [hW, hH, heap_alloc_old _ _ (by simp)]
    exact heap_alloc2_new _ _ _
  have hN : W.heap[H + 1 + 1]? = some (num3 0 0 0) := by
    rw [hW, hH]
    exact alloc3 _ _ _ _
  have hsz : H + 3 ≤ W.heap.size := by rw [hW, hH]; simp
  have h0 : P 0 W := by
    rw [hW]
    exact H0.out
  unfold box9 num3 at hW
  rw [← hW, ← hH]
  rw [← hH] at HST HPP
  clear hW hH H0
  go_wp2_with fail
  go_loopw [10] (fun i wr => ∃ j : Nat, j ≤ 3 ∧ i = .int .i64 j ∧ (∀ i, i < j → good v ok i = true) ∧ P j wr ∧ H + 3 ≤ wr.heap.size ∧ wr.heap[H]? = some (box9 p a0 a1 a2 a3 n m k (.slice sa sn sc)) ∧ wr.heap[H + 1]? = some (box9 ⟨#[]⟩ 0 0 0 0 0 0 0 (.slice none 0 0)) ∧ wr.heap[H + 1 + 1]? = some (num3 (up3 j v 0) (up3 j v 1) (up3 j v 2))) (fun i _ => 3 - (intOf i).toNat)
  case atStart => exact ⟨0, Nat.zero_le _, rfl, fun i hi => by omega, h0, hsz, hA, hZ, hN⟩
  case round =>
    obtain ⟨j, hj, rfl, hall, hp, hs3, hA', hZ', hN'⟩ := hrel
    have HG := Lib.hid hall
    by_cases hlt : j < 3
    · have hltz : (j : Int) < 3 := by omega
      have hj0 : (0 : Int) ≤ (j : Int) := by omega
      have HX := Lib.hid (HST.out j hlt wr (by omega) hp)
      clear hA hZ hN hall hp
      have HA := Lib.hid hA'
      have HZ := Lib.hid hZ'
      have HN := Lib.hid hN'
      clear hA' hZ' hN' h0
      go_wp2_with fail
      refine HX.out.mono ?_
      rintro e w4 ⟨rfl, hkp, hp4⟩
      have hA4 := (hkp.2 H (by omega) (by omega)).trans HA.out
      have hZ4 := (hkp.2 (H + 1) (by omega) (by omega)).trans HZ.out
      have hN4 := (hkp.2 (H + 1 + 1) (by omega) (by omega)).trans HN.out
      have hs4 : H + 3 ≤ w4.heap.size := Nat.le_trans hs3 hkp.1
      have HP4 := Lib.hid hp4
      clear HA HZ HN hkp hp4
      cases hok : ok j with
      | false =>
        have hgd : good v ok j = false := by unfold good; rw [hok]; rfl
        have HGD := Lib.hid hgd
        clear hgd hok
        obtain ⟨⟨c0, c1, c2, c3, c4, c5, c6, c7, c8⟩, f0, f1, f2, f3, f4, f5, f6, f7, f8⟩ := cells9 hZ4
        have HD := Lib.hid (set9_box hZ4 ⟨#[]⟩ 0 0 0 0 0 0 0 (.slice none 0 0))
        have HQ := Lib.hid (HPP.out (j + 1) _ _ (set9_below (T := H + 1) (p := ⟨#[]⟩) (a0 := 0) (a1 := 0) (a2 := 0) (a3 := 0) (n := 0) (m := 0) (k := 0) (s := .slice none 0 0) (Below.refl H w4) (by omega)) HP4.out)
        clear hA4 hZ4 hN4
        go_wp2
        obtain ⟨⟨d0, d1, d2, d3, d4, d5, d6, d7, d8⟩, _⟩ := cells9 HD.out
        have hQ := HQ.out
        unfold set9 at d0 d1 d2 d3 d4 d5 d6 d7 d8 hQ
        refine bodyPost_ret (v := .tuple #[.agg #[.string ⟨#[]⟩, .int .u64 0, .int .u64 0, .int .u64 0, .int .u64 0, .int .i64 0, .int .i64 0, .int .i64 0, .slice none 0 0], .bool false]) (by simp [results, Tryz.results75, go_sem, d0, d1, d2, d3, d4, d5, d6, d7, d8]) rfl ?_
        exact .inr ⟨⟨j, hlt, HGD.out, hQ⟩, rfl⟩
      | true =>
        by_cases hv : v j ≤ 100
        · have hgd : good v ok j = true := by unfold good; rw [hok, decide_eq_true hv]; rfl
          have HG1 : Hid (∀ i, i < j + 1 → good v ok i = true) := Lib.hid fun i hi => by
            rcases Nat.lt_succ_iff_lt_or_eq.1 hi with h | rfl
            · exact HG.out i h
            · exact hgd
          have hgt : decide ((100 : Int) < (v j : Int)) = false := decide_eq_false (by omega)
          have hgt' : ¬ ((100 : Int) < (v j : Int)) := by omega
          have hw : IntKind.i64.wrap (v j : Int) = (v j : Int) := by rw [IntKind.wrap_i64]; omega
          obtain ⟨u, hu⟩ := num3_cell hlt hN4
          have fz : w4.frozen? ⟨H + 1 + 1, j, none⟩ = false := frozen_at hN4
          have HA := Lib.hid hA4
          have HZ := Lib.hid hZ4
          have HN := Lib.hid (num3_set hlt hN4)
          have hbs : Below H w4 (w4.setCell ⟨H + 1 + 1, j, none⟩ (.int .i64 (v j))) := (Below.refl H w4).setCell (by simp; omega) _
          have HQ := Lib.hid (HPP.out (j + 1) _ _ hbs HP4.out)
          clear hbs
          clear hA4 hZ4 hN4 hgd hok hv
          go_wp2
          go_roundw
          case rel =>
            refine ⟨j + 1, by omega, by go_num, HG1.out, HQ.out, by simpa using hs4, ?_, ?_, HN.out⟩
            · rw [heap_setCell_other _ _ _ _ (by simp; omega)]
              exact HA.out
            · rw [heap_setCell_other _ _ _ _ (by simp)]
              exact HZ.out
          case measure => simp [intOf]; omega
        · have hgd : good v ok j = false := by unfold good; rw [decide_eq_false hv]; simp
          have HGD := Lib.hid hgd
          have hgt : decide ((100 : Int) < (v j : Int)) = true := decide_eq_true (by omega)
          have hgt' : (100 : Int) < (v j : Int) := by omega
          clear hgd hok hv
          obtain ⟨⟨c0, c1, c2, c3, c4, c5, c6, c7, c8⟩, f0, f1, f2, f3, f4, f5, f6, f7, f8⟩ := cells9 hZ4
          have HD := Lib.hid (set9_box hZ4 ⟨#[]⟩ 0 0 0 0 0 0 0 (.slice none 0 0))
          have HQ := Lib.hid (HPP.out (j + 1) _ _ (set9_below (T := H + 1) (p := ⟨#[]⟩) (a0 := 0) (a1 := 0) (a2 := 0) (a3 := 0) (n := 0) (m := 0) (k := 0) (s := .slice none 0 0) (Below.refl H w4) (by omega)) HP4.out)
          clear hA4 hZ4 hN4
          go_wp2
          obtain ⟨⟨d0, d1, d2, d3, d4, d5, d6, d7, d8⟩, _⟩ := cells9 HD.out
          have hQ := HQ.out
          unfold set9 at d0 d1 d2 d3 d4 d5 d6 d7 d8 hQ
          refine bodyPost_ret (v := .tuple #[.agg #[.string ⟨#[]⟩, .int .u64 0, .int .u64 0, .int .u64 0, .int .u64 0, .int .i64 0, .int .i64 0, .int .i64 0, .slice none 0 0], .bool false]) (by simp [results, Tryz.results75, go_sem, d0, d1, d2, d3, d4, d5, d6, d7, d8]) rfl ?_
          exact .inr ⟨⟨j, hlt, HGD.out, hQ⟩, rfl⟩
    · have hj3 : j = 3 := by omega
      subst hj3
      have e0 : up3 3 v 0 = (v 0 : Int) := rfl
      have e1 : up3 3 v 1 = (v 1 : Int) := rfl
      have e2 : up3 3 v 2 = (v 2 : Int) := rfl
      rw [e0, e1, e2] at hN'
      have HP3 := Lib.hid hp
      obtain ⟨V0, hV0⟩ : ∃ a : Int, a = v 0 := ⟨_, rfl⟩
      obtain ⟨V1, hV1⟩ : ∃ a : Int, a = v 1 := ⟨_, rfl⟩
      obtain ⟨V2, hV2⟩ : ∃ a : Int, a = v 2 := ⟨_, rfl⟩
      rw [← hV0, ← hV1, ← hV2] at hN'
      have HV := Lib.hid (And.intro hV0 (And.intro hV1 hV2))
      clear e0 e1 e2 hall hp hA hZ hN h0 hV0 hV1 hV2
      have n0 := cell_at (i := 0) (v := .int .i64 V0) hN' rfl
      have n1 := cell_at (i := 1) (v := .int .i64 V1) hN' rfl
      have n2 := cell_at (i := 2) (v := .int .i64 V2) hN' rfl
      obtain ⟨⟨c0, c1, c2, c3, c4, c5, c6, c7, c8⟩, f0, f1, f2, f3, f4, f5, f6, f7, f8⟩ := cells9 hA'
      have HA := Lib.hid hA'
      have HZ := Lib.hid hZ'
      clear hA' hZ' hN'
      go_upto_region 10 with fail
      go_region
      obtain ⟨W2, hW2⟩ : ∃ W2, W2 = (((wr.setCell ⟨H, 5, none⟩ (.int .i64 V0)).setCell ⟨H, 6, none⟩ (.int .i64 V1)).setCell ⟨H, 7, none⟩ (.int .i64 V2)).drew := ⟨_, rfl⟩
      have hA2 : W2.heap[H]? = some (box9 p a0 a1 a2 a3 V0 V1 V2 (.slice sa sn sc)) := by
        have hA := HA.out
        unfold box9 at hA
        have h5 := heap_setCell_same wr H 5 _ _ (.int .i64 V0) hA
        have h6 := heap_setCell_same _ H 6 _ _ (.int .i64 V1) h5
        have h7 := heap_setCell_same _ H 7 _ _ (.int .i64 V2) h6
        rw [hW2]
        refine Eq.trans ?_ (h7.trans ?_)
        · rfl
        · unfold box9
          simp only [List.setIfInBounds_toArray, List.set_cons_succ, List.set_cons_zero]
      have hZ2 : W2.heap[H + 1]? = some (box9 ⟨#[]⟩ 0 0 0 0 0 0 0 (.slice none 0 0)) := by
        rw [hW2]
        refine Eq.trans (?_ : _ = (((wr.setCell ⟨H, 5, none⟩ (.int .i64 V0)).setCell ⟨H, 6, none⟩ (.int .i64 V1)).setCell ⟨H, 7, none⟩ (.int .i64 V2)).heap[H + 1]?) ?_
        · rfl
        · rw [heap_setCell_other _ _ _ _ (by simp), heap_setCell_other _ _ _ _ (by simp), heap_setCell_other _ _ _ _ (by simp)]
          exact HZ.out
      have hQ2 : P 3 W2 := HPP.out 3 _ _ (by
        rw [hW2]
        exact ((((Below.refl H wr).setCell (by simp) _).setCell (by simp) _).setCell (by simp) _).drew) HP3.out
      rw [← hW2]
      clear hW2 HA HZ HP3 n0 n1 n2 c0 c1 c2 c3 c4 c5 c6 c7 c8 f0 f1 f2 f3 f4 f5 f6 f7 f8
      obtain ⟨⟨c0, c1, c2, c3, c4, c5, c6, c7, c8⟩, _⟩ := cells9 hA2
      obtain ⟨⟨_, _, _, _, _, _, _, _, _⟩, f0, f1, f2, f3, f4, f5, f6, f7, f8⟩ := cells9 hZ2
      obtain ⟨⟨g0, g1, g2, g3, g4, g5, g6, g7, g8⟩, _⟩ := cells9 hZ2
      have HD := Lib.hid (set9_box hZ2 p a0 a1 a2 a3 V0 V1 V2 (.slice sa sn sc))
      have HQ := Lib.hid (HPP.out 3 _ _ (set9_below (T := H + 1) (p := p) (a0 := a0) (a1 := a1) (a2 := a2) (a3 := a3) (n := V0) (m := V1) (k := V2) (s := (.slice sa sn sc)) (Below.refl H W2) (by omega)) hQ2)
      clear hA2 hZ2 hQ2
      go_wp2
      obtain ⟨⟨d0, d1, d2, d3, d4, d5, d6, d7, d8⟩, _⟩ := cells9 HD.out
      have hQ := HQ.out
      unfold set9 at d0 d1 d2 d3 d4 d5 d6 d7 d8 hQ
      refine bodyPost_ret (v := .tuple #[.agg #[.string p, .int .u64 a0, .int .u64 a1, .int .u64 a2, .int .u64 a3, .int .i64 V0, .int .i64 V1, .int .i64 V2, (.slice sa sn sc)], .bool true]) (by simp [results, Tryz.results75, go_sem, d0, d1, d2, d3, d4, d5, d6, d7, d8]) rfl ?_
      refine .inl ⟨HG.out, ?_, hQ⟩
      obtain ⟨h0, h1, h2⟩ := HV.out
      rw [h0, h1, h2]
      rfl
end Go.Proofs.YtbilkeadhflibaaGreatDoor.Job

/- What vec.Get answers, for every text and place: the four amounts that stand there, one behind another, and the place behind them; or nothing and false. -/
namespace Go.Proofs.YtbilkeadhflibaaGreatDoor.Vec
open Go.RowKit Go.Proofs.YtbilkeadhflibaaGreatDoor.Wire

/-- Where the k-th amount stands, which it is, and whether it is one. -/
def posAt (l : List UInt8) (p : Int) : Nat → Int
  | 0 => p
  | k + 1 => match getV l (posAt l p k) with | some x => x.2 | none => 0
def valAt (l : List UInt8) (p : Int) (k : Nat) : Int := match getV l (posAt l p k) with | some x => x.1 | none => 0
def okAt (l : List UInt8) (p : Int) (k : Nat) : Bool := (getV l (posAt l p k)).isSome

theorem get_at (s : ByteArray) (hs : s.size ≤ 9223372036854775807) (p : Int) (k : Nat) (w : World) :
    Calls Tryz.prog 77 #[.string s, .int .i64 (posAt s.data.toList p k)] w fun e w' => e = .returned (.tuple #[.int .u64 (valAt s.data.toList p k), .int .i64 (posAt s.data.toList p (k + 1)), .bool (okAt s.data.toList p k)]) ∧ Below w.heap.size w w' := by
  have e : posAt s.data.toList p (k + 1) = match getV s.data.toList (posAt s.data.toList p k) with | some x => (x.2 : Int) | none => 0 := rfl
  unfold valAt okAt
  rw [e]
  cases h : getV s.data.toList (posAt s.data.toList p k) with
  | none => exact get_no s hs _ h w
  | some x => exact get_yes s hs _ x.1 x.2 h w

set_option maxRecDepth 100000 in
set_option maxHeartbeats 1000000 in
theorem get1 (S N k : Nat) (x : Int) (s : ByteArray) (p u n : Int) (ok : Bool) (wr : World) (hS : wr.heap[S]? = some (.cells #[.string s] 9)) (hN : wr.heap[N]? = some (.cells #[.int .i64 p] 3))
    (st : ∀ w, Calls Tryz.prog 77 #[.string s, .int .i64 p] w fun e w' => e = .returned (.tuple #[.int .u64 u, .int .i64 n, .bool ok]) ∧ Below w.heap.size w w') :
    Calls Tryz.prog 111 #[.int .i64 k, .int .u64 x, .pointer (some ⟨S, 0, none⟩), .pointer (some ⟨N, 0, none⟩)] wr fun e w' => e = .returned (.tuple #[.int .u64 u, .bool ok]) ∧ ∃ w1, Below wr.heap.size wr w1 ∧ w' = w1.setCell ⟨N, 0, none⟩ (.int .i64 n) := by
  have cS := cell_at (i := 0) hS rfl
  have cN := cell_at (i := 0) hN rfl
  have fN := frozen_at (i := 0) hN
  have hlt : N < wr.heap.size := World.block_lt_of_cell? wr ⟨N, 0, none⟩ cN
  have HS := Lib.hid st
  clear st hS hN
  go_enter Tryz.func111, Tryz.ntmps111
  go_wp2_with fail
  refine (HS.out _).mono ?_
  rintro e w1 ⟨rfl, hb⟩
  have c1 := cell_later hb cN
  have f1 := (hb.frozen (p := ⟨N, 0, none⟩) hlt).trans fN
  go_wp2
  go_ret2
  exact ⟨rfl, w1, hb, rfl⟩

/-- What Get has laid. -/
def GetLaid (w0 : World) (H : Nat) (s : ByteArray) (q : Int) (w : World) : Prop :=
  Below H w0 w ∧ H + 3 ≤ w.heap.size ∧ w.heap[H]? = some (.cells #[.string s] 9) ∧ w.heap[H + 1]? = some (box 0 0 0 0) ∧ w.heap[H + 2]? = some (.cells #[.int .i64 q] 3)
theorem GetLaid.later {w0 : World} {H : Nat} {s : ByteArray} {q : Int} {a b : World} (hab : Below (H + 3) a b) (h : GetLaid w0 H s q a) : GetLaid w0 H s q b :=
  ⟨h.1.trans (hab.mono (by omega)), Nat.le_trans h.2.1 hab.size, (hab.block _ (by omega)).trans h.2.2.1, (hab.block _ (by omega)).trans h.2.2.2.1, (hab.block _ (by omega)).trans h.2.2.2.2⟩
theorem get_fair {w0 : World} {H : Nat} {s : ByteArray} (hs : s.size ≤ 9223372036854775807) (p : Int) :
    Fair (H + 3) 111 #[.pointer (some ⟨H, 0, none⟩), .pointer (some ⟨H + 2, 0, none⟩)] (fun _ => 0) (valAt s.data.toList p) (okAt s.data.toList p) (fun k => GetLaid w0 H s (posAt s.data.toList p k)) (GetLaid w0 H s 0) := by
  intro k hk wr hsz hp
  refine (get1 H (H + 2) k 0 s _ _ _ _ wr hp.2.2.1 hp.2.2.2.2 (get_at s hs p k)).mono ?_
  rintro e w' ⟨rfl, w1, hb, rfl⟩
  have hl : GetLaid w0 H s (posAt s.data.toList p k) w1 := hp.later (hb.mono hp.2.1)
  have hl' : GetLaid w0 H s (posAt s.data.toList p (k + 1)) (w1.setCell ⟨H + 2, 0, none⟩ (.int .i64 (posAt s.data.toList p (k + 1)))) :=
    ⟨hl.1.setCell (by simp) _, by simpa using hl.2.1, (heap_setCell_other _ _ _ _ (by simp)).trans hl.2.2.1, (heap_setCell_other _ _ _ _ (by simp)).trans hl.2.2.2.1, heap_setCell_same _ _ 0 _ _ _ hl.2.2.2.2⟩
  refine ⟨rfl, (Keeps.of_below hb).set (by simp) _, ?_⟩
  cases hok : okAt s.data.toList p k with
  | true => exact .inl ⟨rfl, hl'⟩
  | false =>
    refine .inr ⟨rfl, ?_⟩
    have e : posAt s.data.toList p (k + 1) = 0 := by
      have e1 : posAt s.data.toList p (k + 1) = match getV s.data.toList (posAt s.data.toList p k) with | some x => (x.2 : Int) | none => 0 := rfl
      rw [e1]
      unfold okAt at hok
      cases h : getV s.data.toList (posAt s.data.toList p k) with
      | none => rfl
      | some x => rw [h] at hok; simp at hok
    rw [e] at hl'
    rw [e]
    exact hl'

/-- What Get hands back. -/
def Got (l : List UInt8) (p : Int) (w0 : World) (e : Ending) (w' : World) : Prop :=
  (((∀ i, i < 4 → okAt l p i = true) ∧ e = .returned (.tuple #[vec (valAt l p 0) (valAt l p 1) (valAt l p 2) (valAt l p 3), .int .i64 (posAt l p 4), .bool true])) ∨
    ((∃ i, i < 4 ∧ okAt l p i = false) ∧ e = .returned (.tuple #[vec 0 0 0 0, .int .i64 0, .bool false]))) ∧ Below w0.heap.size w0 w'

set_option maxRecDepth 100000 in
set_option maxHeartbeats 1000000 in
theorem getVec_any (s : ByteArray) (hs : s.size ≤ 9223372036854775807) (p : Int) (w : World) :
    Calls Tryz.prog 74 #[.string s, .int .i64 p] w (Got s.data.toList p w) := by
  have hcl : ∀ (args : Array Value) (w : World), (callFunc 111 args).run Tryz.prog w = .ok (.enter 111 args) w := fun _ _ => by kernel_rfl
  have HT : ∀ W, W = ((w.alloc (.cells #[.string s] 9)).alloc (box 0 0 0 0)).alloc (.cells #[.int .i64 p] 3) →
      Hid (Calls Tryz.prog 69 #[vec 0 0 0 0, .func (.func 111) #[] #[.pointer (some ⟨w.heap.size, 0, none⟩), .pointer (some ⟨w.heap.size + 1 + 1, 0, none⟩)]] W
        (Turned (valAt s.data.toList p) (okAt s.data.toList p) (fun k => GetLaid w w.heap.size s (posAt s.data.toList p k)) (GetLaid w w.heap.size s 0))) := by
    rintro W rfl
    refine Lib.hid (turn_any (x := fun _ => 0) hcl _ (fun _ a b hab h => h.later (by simpa using hab)) (fun a b hab h => h.later (by simpa using hab)) (by have := get_fair (w0 := w) (H := w.heap.size) hs p; simpa using this) ?_)
    refine ⟨((((Below.refl _ _).alloc (Nat.le_refl _) _).alloc (by simp) _).alloc (by simp; omega) _), by simp, ?_, ?_, ?_⟩
    · rw [heap_alloc_old _ _ (by simp; omega), heap_alloc_old _ _ (by simp)]
      exact heap_alloc_new _ _
    · rw [heap_alloc_old _ _ (by simp)]
      exact heap_alloc2_new _ _ _
    · exact heap_alloc_new ((w.alloc (.cells #[.string s] 9)).alloc (box 0 0 0 0)) (.cells #[.int .i64 p] 3) ▸ (by simp)
  clear hcl
  obtain ⟨v, hv⟩ : ∃ v, v = valAt s.data.toList p := ⟨_, rfl⟩
  obtain ⟨q, hq⟩ : ∃ q, q = posAt s.data.toList p 4 := ⟨_, rfl⟩
  have HG : Hid (∀ e w', (((∀ i, i < 4 → okAt s.data.toList p i = true) ∧ e = .returned (.tuple #[vec (v 0) (v 1) (v 2) (v 3), .int .i64 q, .bool true])) ∨
    ((∃ i, i < 4 ∧ okAt s.data.toList p i = false) ∧ e = .returned (.tuple #[vec 0 0 0 0, .int .i64 0, .bool false]))) → Below w.heap.size w w' → Got s.data.toList p w e w') := by
    subst hv hq
    intro e w' h1 h2
    exact ⟨h1, h2⟩
  rw [← hv] at HT
  have HQ := Lib.hid hq
  clear hv hq
  unfold vec box at HT
  go_enter Tryz.func74, Tryz.ntmps74
  go_wp2_with fail
  refine ((HT _ rfl).out).mono ?_
  clear HT
  rintro e w1 (⟨hall, rfl, hb, _, _, hA, hN⟩ | ⟨hall, rfl, hb, _, _, hA, hN⟩)
  · rw [← HQ.out] at hN
    have hN : w1.heap[w.heap.size + 1 + 1]? = some (.cells #[.int .i64 q] 3) := hN
    obtain ⟨c0, c1, c2, c3, f0, f1, f2, f3⟩ := cells4 hA
    have HL := Lib.hid hall
    obtain ⟨W, hW⟩ : ∃ W, W = set4 (w.heap.size + 1) (v 0) (v 1) (v 2) (v 3) w1 := ⟨_, rfl⟩
    have hA' : W.heap[w.heap.size + 1]? = some (box (v 0) (v 1) (v 2) (v 3)) := by rw [hW]; exact set4_box hA _ _ _ _
    have hN' : W.heap[w.heap.size + 1 + 1]? = some (.cells #[.int .i64 q] 3) := by
      rw [hW]; unfold set4
      rw [heap_setCell_other _ _ _ _ (by simp), heap_setCell_other _ _ _ _ (by simp), heap_setCell_other _ _ _ _ (by simp), heap_setCell_other _ _ _ _ (by simp)]
      exact hN
    have hB' : Below w.heap.size w W := by rw [hW]; exact set4_below hb (by omega)
    have HW := Lib.hid hW
    clear hall hA hN hb hW
    unfold vec
    go_wp2
    have hW := HW.out
    unfold set4 at hW
    rw [← hW]
    clear hW HW c0 c1 c2 c3 f0 f1 f2 f3
    obtain ⟨c0, c1, c2, c3, f0, f1, f2, f3⟩ := cells4 hA'
    have cN := cell_at (i := 0) hN' rfl
    have fN := frozen_at (i := 0) hN'
    have hAs := set4_box hA' (v 0) (v 1) (v 2) (v 3)
    have hNs : (set4 (w.heap.size + 1) (v 0) (v 1) (v 2) (v 3) W).heap[w.heap.size + 1 + 1]? = some (.cells #[.int .i64 q] 3) := by
      unfold set4
      rw [heap_setCell_other _ _ _ _ (by simp), heap_setCell_other _ _ _ _ (by simp), heap_setCell_other _ _ _ _ (by simp), heap_setCell_other _ _ _ _ (by simp)]
      exact hN'
    clear hA' hN'
    have HAs := Lib.hid hAs
    have HNs := Lib.hid hNs
    clear hAs hNs
    go_region
    go_wp2
    have hA2 := (heap_setCell_other _ ⟨w.heap.size + 1 + 1, 0, none⟩ (w.heap.size + 1) (.int .i64 q) (by simp)).trans HAs.out
    have hN2 := heap_setCell_same _ _ 0 _ _ (.int .i64 q) HNs.out
    obtain ⟨d0, d1, d2, d3, _⟩ := cells4 hA2
    have dN := cell_at (i := 0) hN2 rfl
    have hB2 : Below w.heap.size w ((set4 (w.heap.size + 1) (v 0) (v 1) (v 2) (v 3) W).setCell ⟨w.heap.size + 1 + 1, 0, none⟩ (.int .i64 q)).drew := ((set4_below hB' (by omega)).setCell (by simp; omega) _).drew
    unfold set4 at d0 d1 d2 d3 dN hB2
    refine bodyPost_ret (v := .tuple #[.agg #[.int .u64 (v 0), .int .u64 (v 1), .int .u64 (v 2), .int .u64 (v 3)], .int .i64 q, .bool true]) (by simp [results, Tryz.results74, go_sem, d0, d1, d2, d3, dN]) rfl ?_
    exact HG.out _ _ (.inl ⟨HL.out, rfl⟩) hB2
  · have hN : w1.heap[w.heap.size + 1 + 1]? = some (.cells #[.int .i64 0] 3) := hN
    obtain ⟨c0, c1, c2, c3, f0, f1, f2, f3⟩ := cells4 hA
    have HL := Lib.hid hall
    obtain ⟨W, hW⟩ : ∃ W, W = set4 (w.heap.size + 1) 0 0 0 0 w1 := ⟨_, rfl⟩
    have hA' : W.heap[w.heap.size + 1]? = some (box 0 0 0 0) := by rw [hW]; exact set4_box hA _ _ _ _
    have hN' : W.heap[w.heap.size + 1 + 1]? = some (.cells #[.int .i64 0] 3) := by
      rw [hW]; unfold set4
      rw [heap_setCell_other _ _ _ _ (by simp), heap_setCell_other _ _ _ _ (by simp), heap_setCell_other _ _ _ _ (by simp), heap_setCell_other _ _ _ _ (by simp)]
      exact hN
    have hB' : Below w.heap.size w W := by rw [hW]; exact set4_below hb (by omega)
    have HW := Lib.hid hW
    clear hall hA hN hb hW
    unfold vec
    go_wp2
    have hW := HW.out
    unfold set4 at hW
    rw [← hW]
    clear hW HW c0 c1 c2 c3 f0 f1 f2 f3
    obtain ⟨c0, c1, c2, c3, f0, f1, f2, f3⟩ := cells4 hA'
    have cN := cell_at (i := 0) hN' rfl
    have fN := frozen_at (i := 0) hN'
    have hAs := set4_box hA' 0 0 0 0
    have hNs : (set4 (w.heap.size + 1) 0 0 0 0 W).heap[w.heap.size + 1 + 1]? = some (.cells #[.int .i64 0] 3) := by
      unfold set4
      rw [heap_setCell_other _ _ _ _ (by simp), heap_setCell_other _ _ _ _ (by simp), heap_setCell_other _ _ _ _ (by simp), heap_setCell_other _ _ _ _ (by simp)]
      exact hN'
    clear hA' hN'
    have HAs := Lib.hid hAs
    have HNs := Lib.hid hNs
    clear hAs hNs
    go_region
    go_wp2
    have hA2 := (heap_setCell_other _ ⟨w.heap.size + 1 + 1, 0, none⟩ (w.heap.size + 1) (.int .i64 0) (by simp)).trans HAs.out
    have hN2 := heap_setCell_same _ _ 0 _ _ (.int .i64 0) HNs.out
    obtain ⟨d0, d1, d2, d3, _⟩ := cells4 hA2
    have dN := cell_at (i := 0) hN2 rfl
    have hB2 : Below w.heap.size w ((set4 (w.heap.size + 1) 0 0 0 0 W).setCell ⟨w.heap.size + 1 + 1, 0, none⟩ (.int .i64 0)).drew := ((set4_below hB' (by omega)).setCell (by simp; omega) _).drew
    unfold set4 at d0 d1 d2 d3 dN hB2
    refine bodyPost_ret (v := .tuple #[.agg #[.int .u64 0, .int .u64 0, .int .u64 0, .int .u64 0], .int .i64 0, .bool false]) (by simp [results, Tryz.results74, go_sem, d0, d1, d2, d3, dN]) rfl ?_
    exact HG.out _ _ (.inr ⟨HL.out, rfl⟩) hB2
end Go.Proofs.YtbilkeadhflibaaGreatDoor.Vec

/- Blocks of memory by their cells: what they hold behind stores, and a world in which one block alone may have turned; of no program. -/
namespace Go.Proofs.YtbilkeadhflibaaGreatDoor.Boxes
open Go.RowKit

theorem cell_at {w : World} {b i : Nat} {cs : Array Value} {t : TypeId} {v : Value} (h : w.heap[b]? = some (.cells cs t)) (hi : cs[i]? = some v) : w.cell? ⟨b, i, none⟩ = some v := by
  simp [World.cell?, h, hi]
theorem frozen_at {w : World} {b i : Nat} {cs : Array Value} {t : TypeId} (h : w.heap[b]? = some (.cells cs t)) : w.frozen? ⟨b, i, none⟩ = false := by
  simp [World.frozen?, h]
theorem lt_of {w : World} {b : Nat} {o : Obj} (h : w.heap[b]? = some o) : b < w.heap.size := (Array.getElem?_eq_some_iff.1 h).1
theorem keep {w w' : World} {b : Nat} {o : Obj} (h : w.heap[b]? = some o) (hb : Below w.heap.size w w') : w'.heap[b]? = some o := (hb.block b (lt_of h)).trans h
theorem fresh (w : World) (o : Obj) : (w.alloc o).heap[w.heap.size]? = some o := by
  show (w.heap.push o)[w.heap.size]? = _
  simp
theorem size_alloc (w : World) (o : Obj) : (w.alloc o).heap.size = w.heap.size + 1 := Array.size_push ..
theorem fresh1 (w : World) (o p : Obj) : ((w.alloc o).alloc p).heap[w.heap.size + 1]? = some p := by
  have := fresh (w.alloc o) p
  rwa [size_alloc] at this
theorem fresh2 (w : World) (o p q : Obj) : (((w.alloc o).alloc p).alloc q).heap[w.heap.size + 2]? = some q := by
  have := fresh1 (w.alloc o) p q
  rwa [size_alloc] at this
theorem fresh3 (w : World) (o p q r : Obj) : ((((w.alloc o).alloc p).alloc q).alloc r).heap[w.heap.size + 3]? = some r := by
  have := fresh2 (w.alloc o) p q r
  rwa [size_alloc] at this
theorem old (w : World) (o : Obj) : Below w.heap.size w (w.alloc o) := (Below.refl _ _).alloc (Nat.le_refl _) _

/-- Three values stored into one block. -/
def set3 (T : Nat) (a b c : Value) (w : World) : World := ((w.setCell ⟨T, 0, none⟩ a).setCell ⟨T, 1, none⟩ b).setCell ⟨T, 2, none⟩ c
theorem set3_box {w : World} {T : Nat} {x y z : Value} {t : TypeId} (h : w.heap[T]? = some (.cells #[x, y, z] t)) (a b c : Value) : (set3 T a b c w).heap[T]? = some (.cells #[a, b, c] t) := by
  unfold set3
  have h1 := heap_setCell_same w T 0 _ _ a h
  have h2 := heap_setCell_same _ T 1 _ _ b h1
  have h3 := heap_setCell_same _ T 2 _ _ c h2
  rw [h3]
  rfl
theorem set3_below {H T : Nat} {a b c : Value} {w0 w : World} (h : Below H w0 w) (hT : H ≤ T) : Below H w0 (set3 T a b c w) := ((h.setCell hT _).setCell hT _).setCell hT _
theorem cells3 {w : World} {T : Nat} {x y z : Value} {t : TypeId} (h : w.heap[T]? = some (.cells #[x, y, z] t)) :
    w.cell? ⟨T, 0, none⟩ = some x ∧ w.cell? ⟨T, 1, none⟩ = some y ∧ w.cell? ⟨T, 2, none⟩ = some z ∧ w.frozen? ⟨T, 0, none⟩ = false ∧ w.frozen? ⟨T, 1, none⟩ = false ∧ w.frozen? ⟨T, 2, none⟩ = false :=
  ⟨cell_at h rfl, cell_at h rfl, cell_at h rfl, frozen_at h, frozen_at h, frozen_at h⟩

/-- All that was there is as it was, but for one block. -/
structure But (R : Nat) (w w' : World) : Prop where
  os : w'.os = w.os
  tape : w'.tape = w.tape
  output : w'.output = w.output
  size : w.heap.size ≤ w'.heap.size
  block : ∀ k, k < w.heap.size → k ≠ R → w'.heap[k]? = w.heap[k]?
theorem But.of_below {R : Nat} {w w' : World} (h : Below w.heap.size w w') : But R w w' := ⟨h.os, h.tape, h.output, h.size, fun k hk _ => h.block k hk⟩
theorem But.refl (R : Nat) (w : World) : But R w w := But.of_below (Below.refl _ _)
theorem But.trans {R : Nat} {a b c : World} (h : But R a b) (k : But R b c) : But R a c :=
  ⟨k.os.trans h.os, k.tape.trans h.tape, k.output.trans h.output, Nat.le_trans h.size k.size, fun i hi hn => (k.block i (Nat.lt_of_lt_of_le hi h.size) hn).trans (h.block i hi hn)⟩
theorem But.set {R : Nat} {w w' : World} (h : But R w w') (j : Nat) (v : Value) : But R w (w'.setCell ⟨R, j, none⟩ v) :=
  ⟨h.os, h.tape, h.output, by simpa using h.size, fun k hk hn => (heap_setCell_other _ _ _ _ (by simpa using hn)).trans (h.block k hk hn)⟩
theorem But.below {R B : Nat} {w w' : World} (h : But R w w') (hR : B ≤ R) (hB : B ≤ w.heap.size) : Below B w w' :=
  ⟨h.os, h.tape, h.output, h.size, fun k hk => h.block k (by omega) (by omega)⟩
theorem But.keep {R b : Nat} {w w' : World} {o : Obj} (h : But R w w') (hk : w.heap[b]? = some o) (hn : b ≠ R) : w'.heap[b]? = some o := (h.block b (lt_of hk) hn).trans hk
theorem But.cell {R : Nat} {w w' : World} {a : Addr} (h : But R w w') (hl : a.block < w.heap.size) (hn : a.block ≠ R) : w'.cell? a = w.cell? a := World.cell?_of_block (w := w) (h.block a.block hl hn)
theorem But.own {R B n : Nat} {w w' : World} {e : TypeId} {sz : Nat} {v : Value} {xs : List Value} (h : w.ownsRow B e sz v n xs) (hb : But R w w') (hR : R < B) : w'.ownsRow B e sz v n xs := by
  refine ⟨h.1, ?_⟩
  have h' := h
  rcases h.2 with h0 | ⟨g, cap, cur, hv, h1, h2, h3⟩
  · exact .inl h0
  · refine .inr ⟨g, cap, cur, hv, h1, ?_, h3⟩
    rw [hb.block g (h'.lt g (by rw [hv]; rfl)).2 (by omega)]
    exact h2
theorem But.more {R : Nat} {w a b : World} (h : But R w a) (hb : Below w.heap.size a b) : But R w b :=
  ⟨hb.os.trans h.os, hb.tape.trans h.tape, hb.output.trans h.output, Nat.le_trans h.size hb.size, fun k hk hn => (hb.block k hk).trans (h.block k hk hn)⟩
/-- A block behind a new one and an append onto another row. -/
theorem after {w w' : World} {o : Obj} {row : Option Nat} {b : Nat} {ob : Obj} (hk : w.heap[b]? = some ob) (hg : (w.alloc o).grownBy w' row) (hr : row ≠ some b) : w'.heap[b]? = some ob :=
  (hg.block b (lt_of (keep hk (old w o))) (fun e => hr e.symm)).trans (keep hk (old w o))
end Go.Proofs.YtbilkeadhflibaaGreatDoor.Boxes

/- What sel.sure and sel.parseTerm answer of any term and any piece, where they leave by a panic too; of memory that was there nothing turns. -/
namespace Go.Proofs.YtbilkeadhflibaaGreatDoor.Sel
open Go.RowKit Go.Proofs.YtbilkeadhflibaaGreatDoor.Texts Go.Proofs.YtbilkeadhflibaaGreatDoor.Word Go.Proofs.YtbilkeadhflibaaGreatDoor.Forms Go.Proofs.YtbilkeadhflibaaGreatDoor.Split Go.Proofs.YtbilkeadhflibaaGreatDoor.Boxes

set_option maxHeartbeats 1000000 in
set_option maxRecDepth 100000 in
theorem sure_yes (k : ByteArray) (n : Bool) (a : Option Addr) (cap : Nat) (vs : List ByteArray) (w : World) (hs : SRow w (.slice a vs.length cap) vs) (hl : vs.length ≤ 4611686018427387904) (ht : rightT (k, n, vs) = true) :
    Calls Tryz.prog 135 #[.agg #[.string k, .bool n, .slice a vs.length cap]] w fun e w' => e = .returned (.agg #[.string k, .bool n, .slice a vs.length cap]) ∧ Below w.heap.size w w' := by
  have HW : Hid (∀ W, Below w.heap.size w W → Calls Tryz.prog 66 #[.agg #[.string k, .bool n, .slice a vs.length cap]] W fun e w' => e = .returned (.bool false) ∧ Below W.heap.size W w') := Lib.hid fun W h => by
    have := isWrong_any _ (k, n, vs) W ⟨_, rfl, hs.below h⟩ hl
    rw [ht] at this
    exact this
  clear hs ht
  go_enter Tryz.func135, Tryz.ntmps135
  go_wp2_with fail
  with_reducible refine (HW.out _ (grows (grew w _) (grew _ _))).mono ?_
  rintro e w1 ⟨rfl, hb1⟩
  have hb := grows (grows (grew w _) (grew _ _)) hb1
  have hA := keep (keep (fresh w _) (old _ _)) hb1
  have hB := keep (fresh1 w _ _) hb1
  obtain ⟨c0, c1, c2, _⟩ := cells3 hA
  obtain ⟨d0, d1, d2, f0, f1, f2⟩ := cells3 hB
  obtain ⟨e0, e1, e2, _⟩ := cells3 (set3_box hB (.string k) (.bool n) (.slice a vs.length cap))
  have hz := set3_below (a := .string k) (b := .bool n) (c := .slice a vs.length cap) (T := w.heap.size + 1) hb (by omega)
  unfold set3 at e0 e1 e2 hz
  clear hb1 hA hB
  go_wp2
  refine bodyPost_ret (v := .agg #[.string k, .bool n, .slice a vs.length cap]) (by simp [results, Tryz.results135, go_sem, e0, e1, e2]) rfl ?_
  exact ⟨rfl, hz⟩
set_option maxHeartbeats 1000000 in
set_option maxRecDepth 100000 in
theorem sure_no (k : ByteArray) (n : Bool) (a : Option Addr) (cap : Nat) (vs : List ByteArray) (w : World) (hs : SRow w (.slice a vs.length cap) vs) (hl : vs.length ≤ 4611686018427387904) (ht : rightT (k, n, vs) = false) (hE : Err w) :
    Calls Tryz.prog 135 #[.agg #[.string k, .bool n, .slice a vs.length cap]] w fun e w' => Falls e ∧ Below w.heap.size w w' := by
  have HW : Hid (∀ W, Below w.heap.size w W → Calls Tryz.prog 66 #[.agg #[.string k, .bool n, .slice a vs.length cap]] W fun e w' => e = .returned (.bool true) ∧ Below W.heap.size W w') := Lib.hid fun W h => by
    have := isWrong_any _ (k, n, vs) W ⟨_, rfl, hs.below h⟩ hl
    rw [ht] at this
    exact this
  have HE : Hid (∀ W, Below w.heap.size w W → Err W) := Lib.hid fun W h => hE.below h
  clear hs ht hE
  go_enter Tryz.func135, Tryz.ntmps135
  go_wp2_with fail
  with_reducible refine (HW.out _ (grows (grew w _) (grew _ _))).mono ?_
  rintro e w1 ⟨rfl, hb1⟩
  have hb := grows (grows (grew w _) (grew _ _)) hb1
  obtain ⟨T, p, hc⟩ := HE.out _ hb
  clear hb1
  go_wp2
  exact ⟨rfl, ⟨T, p, rfl⟩, hb⟩
end Go.Proofs.YtbilkeadhflibaaGreatDoor.Sel

/- What sel.parseTerm answers of any piece: the term that is read of it, if it is right; else it leaves by a panic. Of memory that was there nothing turns. -/
namespace Go.Proofs.YtbilkeadhflibaaGreatDoor.Sel
open Go.RowKit Go.Proofs.YtbilkeadhflibaaGreatDoor.Texts Go.Proofs.YtbilkeadhflibaaGreatDoor.Word Go.Proofs.YtbilkeadhflibaaGreatDoor.Forms Go.Proofs.YtbilkeadhflibaaGreatDoor.Split Go.Proofs.YtbilkeadhflibaaGreatDoor.Boxes

/-- A slice of texts whose row stands from a block on. -/
def SNew (B : Nat) (w : World) (v : Value) (ts : List ByteArray) : Prop := SRow w v ts ∧ ∀ g o n c, v = .slice (some ⟨g, o, none⟩) n c → ts ≠ [] → B ≤ g
theorem SNew.nil (B : Nat) (w : World) : SNew B w (.slice none 0 0) [] := ⟨SRow.nil w, fun _ _ _ _ h => by cases h⟩
theorem SNew.below {B : Nat} {w w' : World} {v : Value} {ts : List ByteArray} (h : SNew B w v ts) (hb : Below w.heap.size w w') : SNew B w' v ts := ⟨h.1.below hb, h.2⟩
theorem SNew.row {B : Nat} {w : World} {v : Value} {ts : List ByteArray} (h : SNew B w v ts) : SRow w v ts := h.1
theorem SNew.mono {B B' : Nat} {w : World} {v : Value} {ts : List ByteArray} (h : SNew B w v ts) (hB : B' ≤ B) : SNew B' w v ts := ⟨h.1, fun g o n c e hn => Nat.le_trans hB (h.2 g o n c e hn)⟩
theorem SNew.but {B R : Nat} {w w' : World} {v : Value} {ts : List ByteArray} (h : SNew B w v ts) (hb : But R w w') (hR : R < B) : SNew B w' v ts := by
  refine ⟨?_, h.2⟩
  rcases h.1 with h1 | ⟨h0, g, o, cap, h1, h2, h3, h4, h5⟩
  · exact .inl h1
  · have hg := h.2 g o _ _ h1 h0
    refine .inr ⟨h0, g, o, cap, h1, by have := hb.size; omega, h3, h4, fun j t hj => ?_⟩
    rw [hb.cell (a := ⟨g, o + j, none⟩) h2 (by show g ≠ R; omega)]
    exact h5 j t hj
/-- A term as a value, whose row of values stands from a block on. -/
def TNew (B : Nat) (w : World) (v : Value) (t : Tm) : Prop := ∃ s, v = .agg #[.string t.1, .bool t.2.1, s] ∧ SNew B w s t.2.2

/-- What split tells, with where its row stands. -/
theorem split_new (c : UInt8) (s : ByteArray) (hs : s.size ≤ 4611686018427387904) (h4 : (cuts c s.data.toList).length ≤ 4) (w : World) :
    Calls Tryz.prog 120 #[.string s, .string ⟨#[c]⟩, .int .i64 4] w fun e w' => (∃ a cap, e = .returned (.slice a ((cuts c s.data.toList).map str).length cap) ∧ SNew w.heap.size w' (.slice a ((cuts c s.data.toList).map str).length cap) ((cuts c s.data.toList).map str)) ∧ Below w.heap.size w w' := by
  refine (split_at c s hs h4 w).mono ?_
  rintro e w' ⟨⟨cap, rfl, h⟩, hb⟩
  refine ⟨⟨_, cap, rfl, h, fun g o n c he _ => ?_⟩, hb⟩
  injection he with h1 _ _
  injection h1 with h1
  injection h1 with h1 _ _
  omega

def Read (t : Tm) (w : World) (e : Ending) (w' : World) : Prop := (∃ v, e = .returned v ∧ TNew w.heap.size w' v t) ∧ Below w.heap.size w w'

set_option maxHeartbeats 1000000 in
set_option maxRecDepth 100000 in
theorem ahead_yes (q k : ByteArray) (w : World) (HP : Hid (∀ W, Calls Tryz.prog 138 #[.string q, .string ⟨#[33]⟩] W fun e w' => e = .returned (.tuple #[.string k, .bool true]) ∧ w' = W))
    (HS : Hid (∀ W, Below w.heap.size w W → Calls Tryz.prog 135 #[.agg #[.string k, .bool true, .slice none 0 0]] W fun e w' => e = .returned (.agg #[.string k, .bool true, .slice none 0 0]) ∧ Below W.heap.size W w')) :
    Calls Tryz.prog 121 #[.string q] w (Read (k, true, []) w) := by
  go_enter Tryz.func121, Tryz.ntmps121
  go_wp2_with fail
  with_reducible refine (HP.out _).mono ?_
  rintro e _ ⟨rfl, rfl⟩
  go_wp2_with fail
  with_reducible refine (HS.out _ (grew w _)).mono ?_
  rintro e w1 ⟨rfl, hb1⟩
  have hb := grows (grew w _) hb1
  have hB := keep (fresh w _) hb1
  obtain ⟨d0, d1, d2, f0, f1, f2⟩ := cells3 hB
  obtain ⟨e0, e1, e2, _⟩ := cells3 (set3_box hB (.string k) (.bool true) (.slice none 0 0))
  have hz := set3_below (a := .string k) (b := .bool true) (c := (.slice none 0 0)) (T := w.heap.size) hb (Nat.le_refl _)
  have hzz := set3_below (a := .string k) (b := .bool true) (c := (.slice none 0 0)) (T := w.heap.size) (H := w.heap.size) (Below.refl _ w1) (Nat.le_refl _)
  clear hb1
  unfold set3 at e0 e1 e2 hz
  clear hB hzz
  go_wp2
  refine bodyPost_ret (v := .agg #[.string k, .bool true, (.slice none 0 0)]) (by simp [results, Tryz.results121, go_sem, e0, e1, e2]) rfl ?_
  exact ⟨⟨_, rfl, _, rfl, SNew.nil _ _⟩, hz⟩

set_option maxHeartbeats 1000000 in
set_option maxRecDepth 100000 in
theorem bare_yes (q k j : ByteArray) (w : World) (HP : Hid (∀ W, Calls Tryz.prog 138 #[.string q, .string ⟨#[33]⟩] W fun e w' => e = .returned (.tuple #[.string q, .bool false]) ∧ w' = W))
    (HC : Hid (∀ W, Calls Tryz.prog 139 #[.string q, .string ⟨#[61]⟩] W fun e w' => e = .returned (.tuple #[.string k, .string j, .bool false]) ∧ Below W.heap.size W w'))
    (HS : Hid (∀ W, Below w.heap.size w W → Calls Tryz.prog 135 #[.agg #[.string k, .bool false, .slice none 0 0]] W fun e w' => e = .returned (.agg #[.string k, .bool false, .slice none 0 0]) ∧ Below W.heap.size W w')) :
    Calls Tryz.prog 121 #[.string q] w (Read (k, false, []) w) := by
  go_enter Tryz.func121, Tryz.ntmps121
  go_wp2_with fail
  with_reducible refine (HP.out _).mono ?_
  rintro e _ ⟨rfl, rfl⟩
  go_wp2_with fail
  with_reducible refine (HC.out _).mono ?_
  rintro e w2 ⟨rfl, hb2⟩
  have hb0 := grows (grew w _) hb2
  go_wp2_with fail
  with_reducible refine (HS.out _ hb0).mono ?_
  rintro e w1 ⟨rfl, hb1⟩
  have hb := grows hb0 hb1
  have hB := keep (fresh w _) (grows hb2 hb1)
  obtain ⟨d0, d1, d2, f0, f1, f2⟩ := cells3 hB
  obtain ⟨e0, e1, e2, _⟩ := cells3 (set3_box hB (.string k) (.bool false) (.slice none 0 0))
  have hz := set3_below (a := .string k) (b := .bool false) (c := (.slice none 0 0)) (T := w.heap.size) hb (Nat.le_refl _)
  have hzz := set3_below (a := .string k) (b := .bool false) (c := (.slice none 0 0)) (T := w.heap.size) (H := w.heap.size) (Below.refl _ w1) (Nat.le_refl _)
  clear hb1 hb2
  unfold set3 at e0 e1 e2 hz
  clear hB hzz
  go_wp2
  refine bodyPost_ret (v := .agg #[.string k, .bool false, (.slice none 0 0)]) (by simp [results, Tryz.results121, go_sem, e0, e1, e2]) rfl ?_
  exact ⟨⟨_, rfl, _, rfl, SNew.nil _ _⟩, hz⟩

set_option maxHeartbeats 1000000 in
set_option maxRecDepth 100000 in
theorem ahead_no (q k : ByteArray) (w : World) (HP : Hid (∀ W, Calls Tryz.prog 138 #[.string q, .string ⟨#[33]⟩] W fun e w' => e = .returned (.tuple #[.string k, .bool true]) ∧ w' = W))
    (HS : Hid (∀ W, Below w.heap.size w W → Err W → Calls Tryz.prog 135 #[.agg #[.string k, .bool true, .slice none 0 0]] W fun e w' => Falls e ∧ Below W.heap.size W w')) (hE : Err w) :
    Calls Tryz.prog 121 #[.string q] w fun e w' => Falls e ∧ Below w.heap.size w w' := by
  have HE : Hid (∀ W, Below w.heap.size w W → Err W) := Lib.hid fun W h => hE.below h
  clear hE
  go_enter Tryz.func121, Tryz.ntmps121
  go_wp2_with fail
  with_reducible refine (HP.out _).mono ?_
  rintro e _ ⟨rfl, rfl⟩
  go_wp2_with fail
  with_reducible refine (HS.out _ (grew w _) (HE.out _ (grew w _))).mono ?_
  rintro e w1 ⟨⟨T, p, rfl⟩, hb1⟩
  have hb := grows (grew w _) hb1
  go_wp2
  exact ⟨rfl, ⟨T, p, rfl⟩, hb⟩
set_option maxHeartbeats 1000000 in
set_option maxRecDepth 100000 in
theorem bare_no (q k j : ByteArray) (w : World) (HP : Hid (∀ W, Calls Tryz.prog 138 #[.string q, .string ⟨#[33]⟩] W fun e w' => e = .returned (.tuple #[.string q, .bool false]) ∧ w' = W))
    (HC : Hid (∀ W, Calls Tryz.prog 139 #[.string q, .string ⟨#[61]⟩] W fun e w' => e = .returned (.tuple #[.string k, .string j, .bool false]) ∧ Below W.heap.size W w'))
    (HS : Hid (∀ W, Below w.heap.size w W → Err W → Calls Tryz.prog 135 #[.agg #[.string k, .bool false, .slice none 0 0]] W fun e w' => Falls e ∧ Below W.heap.size W w')) (hE : Err w) :
    Calls Tryz.prog 121 #[.string q] w fun e w' => Falls e ∧ Below w.heap.size w w' := by
  have HE : Hid (∀ W, Below w.heap.size w W → Err W) := Lib.hid fun W h => hE.below h
  clear hE
  go_enter Tryz.func121, Tryz.ntmps121
  go_wp2_with fail
  with_reducible refine (HP.out _).mono ?_
  rintro e _ ⟨rfl, rfl⟩
  go_wp2_with fail
  with_reducible refine (HC.out _).mono ?_
  rintro e w2 ⟨rfl, hb2⟩
  have hb0 := grows (grew w _) hb2
  go_wp2_with fail
  with_reducible refine (HS.out _ hb0 (HE.out _ hb0)).mono ?_
  rintro e w1 ⟨⟨T, p, rfl⟩, hb1⟩
  have hb := grows hb0 hb1
  go_wp2
  exact ⟨rfl, ⟨T, p, rfl⟩, hb⟩
set_option maxHeartbeats 1000000 in
set_option maxRecDepth 100000 in
theorem full_yes (q l r k : ByteArray) (n : Bool) (vs : List ByteArray) (w : World) (HP : Hid (∀ W, Calls Tryz.prog 138 #[.string q, .string ⟨#[33]⟩] W fun e w' => e = .returned (.tuple #[.string q, .bool false]) ∧ w' = W))
    (HC : Hid (∀ W, Calls Tryz.prog 139 #[.string q, .string ⟨#[61]⟩] W fun e w' => e = .returned (.tuple #[.string l, .string r, .bool true]) ∧ Below W.heap.size W w'))
    (HX : Hid (∀ W, Calls Tryz.prog 140 #[.string l, .string ⟨#[33]⟩] W fun e w' => e = .returned (.tuple #[.string k, .bool n]) ∧ w' = W))
    (HV : Hid (∀ W, Calls Tryz.prog 120 #[.string r, .string ⟨#[124]⟩, .int .i64 4] W fun e w' => (∃ a cap, e = .returned (.slice a vs.length cap) ∧ SNew W.heap.size w' (.slice a vs.length cap) vs) ∧ Below W.heap.size W w'))
    (HS : Hid (∀ a cap W, SRow W (.slice a vs.length cap) vs → Calls Tryz.prog 135 #[.agg #[.string k, .bool n, .slice a vs.length cap]] W fun e w' => e = .returned (.agg #[.string k, .bool n, .slice a vs.length cap]) ∧ Below W.heap.size W w')) :
    Calls Tryz.prog 121 #[.string q] w (Read (k, n, vs) w) := by
  go_enter Tryz.func121, Tryz.ntmps121
  go_wp2_with fail
  with_reducible refine (HP.out _).mono ?_
  rintro e _ ⟨rfl, rfl⟩
  go_wp2_with fail
  with_reducible refine (HC.out _).mono ?_
  rintro e w2 ⟨rfl, hb2⟩
  have hb0 := grows (grew w _) hb2
  go_wp2_with fail
  with_reducible refine (HX.out _).mono ?_
  rintro e w2 ⟨rfl, rfl⟩
  go_wp2_with fail
  with_reducible refine (HV.out _).mono ?_
  rintro e w3 ⟨⟨a, cap, rfl, hv⟩, hb3⟩
  have hb4 := grows hb0 hb3
  have HN := Lib.hid hv
  clear hv
  go_wp2_with fail
  with_reducible refine (HS.out _ _ _ (SNew.row HN.out)).mono ?_
  rintro e w1 ⟨rfl, hb1⟩
  have hb := grows hb4 hb1
  have hlt : w.heap.size < w2.heap.size := lt_of (keep (fresh w _) hb2)
  have hB := keep (fresh w _) (grows (grows hb2 hb3) hb1)
  obtain ⟨d0, d1, d2, f0, f1, f2⟩ := cells3 hB
  obtain ⟨e0, e1, e2, _⟩ := cells3 (set3_box hB (.string k) (.bool n) (.slice a vs.length cap))
  have hz := set3_below (a := .string k) (b := .bool n) (c := (.slice a vs.length cap)) (T := w.heap.size) hb (Nat.le_refl _)
  have hzz := set3_below (a := .string k) (b := .bool n) (c := (.slice a vs.length cap)) (T := w.heap.size) (H := w.heap.size) (Below.refl _ w1) (Nat.le_refl _)
  have HN2 := Lib.hid (((HN.out.below hb1).but (R := w.heap.size) (((((But.refl _ _).set 0 (.string k)).set 1 (.bool n)).set 2 (.slice a vs.length cap))) hlt).mono (Nat.le_of_lt hlt))
  clear hb1 hb2 hb3 hlt
  unfold set3 at e0 e1 e2 hz
  clear hB hzz
  go_wp2
  refine bodyPost_ret (v := .agg #[.string k, .bool n, (.slice a vs.length cap)]) (by simp [results, Tryz.results121, go_sem, e0, e1, e2]) rfl ?_
  exact ⟨⟨_, rfl, _, rfl, HN2.out⟩, hz⟩

set_option maxHeartbeats 1000000 in
set_option maxRecDepth 100000 in
theorem full_no (q l r k : ByteArray) (n : Bool) (vs : List ByteArray) (w : World) (HP : Hid (∀ W, Calls Tryz.prog 138 #[.string q, .string ⟨#[33]⟩] W fun e w' => e = .returned (.tuple #[.string q, .bool false]) ∧ w' = W))
    (HC : Hid (∀ W, Calls Tryz.prog 139 #[.string q, .string ⟨#[61]⟩] W fun e w' => e = .returned (.tuple #[.string l, .string r, .bool true]) ∧ Below W.heap.size W w'))
    (HX : Hid (∀ W, Calls Tryz.prog 140 #[.string l, .string ⟨#[33]⟩] W fun e w' => e = .returned (.tuple #[.string k, .bool n]) ∧ w' = W))
    (HV : Hid (∀ W, Calls Tryz.prog 120 #[.string r, .string ⟨#[124]⟩, .int .i64 4] W fun e w' => (∃ a cap, e = .returned (.slice a vs.length cap) ∧ SNew W.heap.size w' (.slice a vs.length cap) vs) ∧ Below W.heap.size W w'))
    (HS : Hid (∀ a cap W, SRow W (.slice a vs.length cap) vs → Err W → Calls Tryz.prog 135 #[.agg #[.string k, .bool n, .slice a vs.length cap]] W fun e w' => Falls e ∧ Below W.heap.size W w')) (hE : Err w) :
    Calls Tryz.prog 121 #[.string q] w fun e w' => Falls e ∧ Below w.heap.size w w' := by
  have HE : Hid (∀ W, Below w.heap.size w W → Err W) := Lib.hid fun W h => hE.below h
  clear hE
  go_enter Tryz.func121, Tryz.ntmps121
  go_wp2_with fail
  with_reducible refine (HP.out _).mono ?_
  rintro e _ ⟨rfl, rfl⟩
  go_wp2_with fail
  with_reducible refine (HC.out _).mono ?_
  rintro e w2 ⟨rfl, hb2⟩
  have hb0 := grows (grew w _) hb2
  go_wp2_with fail
  with_reducible refine (HX.out _).mono ?_
  rintro e w2 ⟨rfl, rfl⟩
  go_wp2_with fail
  with_reducible refine (HV.out _).mono ?_
  rintro e w3 ⟨⟨a, cap, rfl, hv⟩, hb3⟩
  have hb4 := grows hb0 hb3
  have HN := Lib.hid hv
  clear hv
  go_wp2_with fail
  with_reducible refine (HS.out _ _ _ (SNew.row HN.out) (HE.out _ hb4)).mono ?_
  rintro e w1 ⟨⟨T, p, rfl⟩, hb1⟩
  have hb := grows hb4 hb1
  go_wp2
  exact ⟨rfl, ⟨T, p, rfl⟩, hb⟩
set_option maxHeartbeats 1000000 in
set_option maxRecDepth 100000 in
theorem full_many (q l r k : ByteArray) (n : Bool) (w : World) (HP : Hid (∀ W, Calls Tryz.prog 138 #[.string q, .string ⟨#[33]⟩] W fun e w' => e = .returned (.tuple #[.string q, .bool false]) ∧ w' = W))
    (HC : Hid (∀ W, Calls Tryz.prog 139 #[.string q, .string ⟨#[61]⟩] W fun e w' => e = .returned (.tuple #[.string l, .string r, .bool true]) ∧ Below W.heap.size W w'))
    (HX : Hid (∀ W, Calls Tryz.prog 140 #[.string l, .string ⟨#[33]⟩] W fun e w' => e = .returned (.tuple #[.string k, .bool n]) ∧ w' = W))
    (HV : Hid (∀ W, Err W → Calls Tryz.prog 120 #[.string r, .string ⟨#[124]⟩, .int .i64 4] W fun e w' => Falls e ∧ Below W.heap.size W w')) (hE : Err w) :
    Calls Tryz.prog 121 #[.string q] w fun e w' => Falls e ∧ Below w.heap.size w w' := by
  have HE : Hid (∀ W, Below w.heap.size w W → Err W) := Lib.hid fun W h => hE.below h
  clear hE
  go_enter Tryz.func121, Tryz.ntmps121
  go_wp2_with fail
  with_reducible refine (HP.out _).mono ?_
  rintro e _ ⟨rfl, rfl⟩
  go_wp2_with fail
  with_reducible refine (HC.out _).mono ?_
  rintro e w2 ⟨rfl, hb2⟩
  have hb0 := grows (grew w _) hb2
  go_wp2_with fail
  with_reducible refine (HX.out _).mono ?_
  rintro e w2 ⟨rfl, rfl⟩
  go_wp2_with fail
  with_reducible refine (HV.out _ (HE.out _ hb0)).mono ?_
  rintro e w3 ⟨⟨T, p, rfl⟩, hb3⟩
  have hb4 := grows hb0 hb3
  go_wp2
  exact ⟨rfl, ⟨T, p, rfl⟩, hb4⟩
end Go.Proofs.YtbilkeadhflibaaGreatDoor.Sel

/- What sel.parseTerm answers of any piece, in one form: the term that is read of it, if it is right; else it leaves by a panic. -/
namespace Go.Proofs.YtbilkeadhflibaaGreatDoor.Sel
open Go.RowKit Go.Proofs.YtbilkeadhflibaaGreatDoor.Texts Go.Proofs.YtbilkeadhflibaaGreatDoor.Word Go.Proofs.YtbilkeadhflibaaGreatDoor.Forms Go.Proofs.YtbilkeadhflibaaGreatDoor.Split Go.Proofs.YtbilkeadhflibaaGreatDoor.Boxes

theorem cutAt_small (l : List UInt8) (c : UInt8) : (cutAt l c).1.length ≤ l.length ∧ (cutAt l c).2.1.length ≤ l.length := by
  unfold cutAt
  split
  · simp
  · exact ⟨by simp only [List.length_take]; omega, by simp only [List.length_drop]; omega⟩
theorem readP_ahead {l : List UInt8} (h : l.head? = some 33) : readP l = (str l.tail, true, []) := by unfold readP; rw [if_pos h]
theorem readP_bare {l : List UInt8} (h : ¬ l.head? = some 33) (hc : (cutAt l 61).2.2 = false) : readP l = (str l, false, []) := by unfold readP; rw [if_neg h, if_pos hc]
theorem readP_full {l : List UInt8} (h : ¬ l.head? = some 33) (hc : (cutAt l 61).2.2 = true) {k : ByteArray} {n : Bool} (hk : sufV 33 (str (cutAt l 61).1) = .tuple #[.string k, .bool n]) :
    readP l = (k, n, (cuts 124 (cutAt l 61).2.1).map str) := by
  unfold readP
  rw [if_neg h, if_neg (by rw [hc]; simp)]
  unfold sufV at hk
  rw [str_toList] at hk
  split
  · rename_i hl
    rw [if_pos hl] at hk
    simp only [Value.tuple.injEq, Array.mk.injEq, List.cons.injEq, Value.string.injEq, Value.bool.injEq, and_true] at hk
    rw [hk.1, hk.2]
  · rename_i hl
    rw [if_neg hl] at hk
    simp only [Value.tuple.injEq, Array.mk.injEq, List.cons.injEq, Value.string.injEq, Value.bool.injEq, and_true] at hk
    rw [hk.1, hk.2]
theorem sufV_form (c : UInt8) (s : ByteArray) : ∃ k n, sufV c s = .tuple #[.string k, .bool n] := by
  unfold sufV
  split
  · exact ⟨_, _, rfl⟩
  · exact ⟨_, _, rfl⟩
theorem cutAt_first {l : List UInt8} {c : UInt8} (h : (cutAt l c).2.2 = false) : (cutAt l c).1 = l := by
  unfold cutAt at *
  split
  · rfl
  · rename_i hn
    rw [if_neg hn] at h
    cases h

/-- What is known at the door of parseTerm. -/
theorem door (q : ByteArray) (hs : q.size ≤ 4611686018427387904) :
    (q.data.toList.head? = some 33 ∧ readP q.data.toList = (str q.data.toList.tail, true, []) ∧ ∀ W, Calls Tryz.prog 138 #[.string q, .string ⟨#[33]⟩] W fun e w' => e = .returned (.tuple #[.string (str q.data.toList.tail), .bool true]) ∧ w' = W) ∨
    (¬ q.data.toList.head? = some 33 ∧ (∀ W, Calls Tryz.prog 138 #[.string q, .string ⟨#[33]⟩] W fun e w' => e = .returned (.tuple #[.string q, .bool false]) ∧ w' = W) ∧
      ((readP q.data.toList = (q, false, []) ∧ ∃ j, ∀ W, Calls Tryz.prog 139 #[.string q, .string ⟨#[61]⟩] W fun e w' => e = .returned (.tuple #[.string q, .string j, .bool false]) ∧ Below W.heap.size W w') ∨
       (∃ l r k n, r.size ≤ q.size ∧ readP q.data.toList = (k, n, (cuts 124 r.data.toList).map str) ∧ (∀ W, Calls Tryz.prog 139 #[.string q, .string ⟨#[61]⟩] W fun e w' => e = .returned (.tuple #[.string l, .string r, .bool true]) ∧ Below W.heap.size W w') ∧
          ∀ W, Calls Tryz.prog 140 #[.string l, .string ⟨#[33]⟩] W fun e w' => e = .returned (.tuple #[.string k, .bool n]) ∧ w' = W))) := by
  by_cases h : q.data.toList.head? = some 33
  · refine .inl ⟨h, readP_ahead h, fun W => ?_⟩
    have := prefix_any 33 q hs W
    unfold preV at this
    rw [if_pos h] at this
    exact this
  · refine .inr ⟨h, fun W => ?_, ?_⟩
    · have := prefix_any 33 q hs W
      unfold preV at this
      rw [if_neg h] at this
      exact this
    · cases hc : (cutAt q.data.toList 61).2.2 with
      | false =>
        refine .inl ⟨by rw [readP_bare h hc, str_data], str (cutAt q.data.toList 61).2.1, fun W => ?_⟩
        have := cut_any 61 q hs W
        unfold cutV at this
        rw [hc, cutAt_first hc, str_data] at this
        exact this
      | true =>
        obtain ⟨k, n, hk⟩ := sufV_form 33 (str (cutAt q.data.toList 61).1)
        have hsm := cutAt_small q.data.toList 61
        rw [size_list] at hsm
        refine .inr ⟨str (cutAt q.data.toList 61).1, str (cutAt q.data.toList 61).2.1, k, n, by rw [str_len]; exact hsm.2, ?_, fun W => ?_, fun W => ?_⟩
        · rw [readP_full h hc hk, str_toList]
        · have := cut_any 61 q hs W
          unfold cutV at this
          rw [hc] at this
          exact this
        · rw [← hk]
          exact suffix_any 33 _ (by rw [str_len]; omega) W

theorem parseTerm_yes (q : ByteArray) (hs : q.size ≤ 4611686018427387904) (h : rightT (readP q.data.toList) = true) (w : World) :
    Calls Tryz.prog 121 #[.string q] w (Read (readP q.data.toList) w) := by
  rcases door q hs with ⟨_, hr, HP⟩ | ⟨_, HP, ⟨hr, j, HC⟩ | ⟨l, r, k, n, hrs, hr, HC, HX⟩⟩
  · rw [hr] at h ⊢
    exact ahead_yes q _ w (Lib.hid HP) (Lib.hid fun W _ => sure_yes _ true none 0 [] W (SRow.nil W) (by simp) h)
  · rw [hr] at h ⊢
    exact bare_yes q q j w (Lib.hid HP) (Lib.hid HC) (Lib.hid fun W _ => sure_yes _ false none 0 [] W (SRow.nil W) (by simp) h)
  · rw [hr] at h ⊢
    have h4 := (rightT_parts h).2.1
    simp only [List.length_map] at h4
    exact full_yes q l r k n _ w (Lib.hid HP) (Lib.hid HC) (Lib.hid HX) (Lib.hid fun W => split_new 124 r (by omega) h4 W) (Lib.hid fun a cap W hv => sure_yes k n a cap _ W hv (by rw [List.length_map]; omega) h)
theorem parseTerm_no (q : ByteArray) (hs : q.size ≤ 4611686018427387904) (h : rightT (readP q.data.toList) = false) (w : World) (hE : Err w) :
    Calls Tryz.prog 121 #[.string q] w fun e w' => Falls e ∧ Below w.heap.size w w' := by
  rcases door q hs with ⟨_, hr, HP⟩ | ⟨_, HP, ⟨hr, j, HC⟩ | ⟨l, r, k, n, hrs, hr, HC, HX⟩⟩
  · rw [hr] at h
    exact ahead_no q _ w (Lib.hid HP) (Lib.hid fun W _ hE => sure_no _ true none 0 [] W (SRow.nil W) (by simp) h hE) hE
  · rw [hr] at h
    exact bare_no q q j w (Lib.hid HP) (Lib.hid HC) (Lib.hid fun W _ hE => sure_no _ false none 0 [] W (SRow.nil W) (by simp) h hE) hE
  · rw [hr] at h
    by_cases h4 : (cuts 124 r.data.toList).length ≤ 4
    · exact full_no q l r k n _ w (Lib.hid HP) (Lib.hid HC) (Lib.hid HX) (Lib.hid fun W => split_new 124 r (by omega) h4 W) (Lib.hid fun a cap W hv hE => sure_no k n a cap _ W hv (by rw [List.length_map]; omega) h hE) hE
    · exact full_many q l r k n w (Lib.hid HP) (Lib.hid HC) (Lib.hid HX) (Lib.hid fun W hE => split_no 124 r (by omega) (by omega) W hE) hE
end Go.Proofs.YtbilkeadhflibaaGreatDoor.Sel

/- What sel.Parse and sel.Get defer: behind a panic the answers become nothing and false; else they stay. -/
namespace Go.Proofs.YtbilkeadhflibaaGreatDoor.Sel
open Go.RowKit Go.Proofs.YtbilkeadhflibaaGreatDoor.Boxes

set_option maxRecDepth 100000 in
set_option maxHeartbeats 1000000 in
theorem parse_catch (H : Nat) (x y pv : Value) (T : TypeId) (older : List PanicEntry) (w : World) (h0 : w.heap[H]? = some (.cells #[x] 25)) (h1 : w.heap[H + 1]? = some (.cells #[y] 4)) :
    CallsD Tryz.prog 119 #[.pointer (some ⟨H, 0, none⟩), .pointer (some ⟨H + 1, 0, none⟩)] (.panicking ({ v := .iface T pv, recovered := false } :: older)) w fun e u' w' =>
      e = .returned (.tuple #[]) ∧ u' = .panicking ({ v := .iface T pv, recovered := true } :: older) ∧ w' = (w.setCell ⟨H, 0, none⟩ (.slice none 0 0)).setCell ⟨H + 1, 0, none⟩ (.bool false) := by
  have c0 := cell_at (i := 0) h0 rfl
  have f0 := frozen_at (i := 0) h0
  have g1 := cell_at (i := 0) ((heap_setCell_other w ⟨H, 0, none⟩ (H + 1) (.slice none 0 0) (by simp)).trans h1) rfl
  have k1 := frozen_at (i := 0) ((heap_setCell_other w ⟨H, 0, none⟩ (H + 1) (.slice none 0 0) (by simp)).trans h1)
  clear h0 h1
  refine callsD_of_wpS Tryz.func119 rfl fun c₀ cs hu => ?_
  apply wpS_seq
  apply wpS_region
  simp [wpOpsS, go_sem, recoverD, hu, Tryz.ntmps119, Exit.thenS]
  refine wpS_cond (t := true) (by simp [Act.eval, Array.replicate]) ?_
  simp only [if_true]
  apply wpS_region
  simp [wpOpsS, go_sem, c0, f0, g1, k1, bodyPostS, results, Tryz.results119]
set_option maxRecDepth 100000 in
set_option maxHeartbeats 1000000 in
theorem parse_idle (p q : Addr) (w : World) :
    CallsD Tryz.prog 119 #[.pointer (some p), .pointer (some q)] .returning w fun e u' w' => e = .returned (.tuple #[]) ∧ u' = .returning ∧ w' = w := by
  refine callsD_of_wpS Tryz.func119 rfl fun c₀ cs hu => ?_
  apply wpS_seq
  apply wpS_region
  simp [wpOpsS, go_sem, recoverD, hu, Tryz.ntmps119, Exit.thenS]
  refine wpS_cond (t := false) (by simp [Act.eval, Array.replicate]) ?_
  simp only [Bool.false_eq_true, if_false]
  refine wpS_of_wp (wp_skip ?_)
  cases c₀
  simp_all [bodyPostS, results, Tryz.results119]

set_option maxRecDepth 100000 in
set_option maxHeartbeats 1000000 in
theorem get_catch (H : Nat) (x y z pv : Value) (T : TypeId) (older : List PanicEntry) (w : World) (h0 : w.heap[H]? = some (.cells #[x] 25)) (h1 : w.heap[H + 1]? = some (.cells #[y] 3)) (h2 : w.heap[H + 2]? = some (.cells #[z] 4)) :
    CallsD Tryz.prog 114 #[.pointer (some ⟨H, 0, none⟩), .pointer (some ⟨H + 1, 0, none⟩), .pointer (some ⟨H + 2, 0, none⟩)] (.panicking ({ v := .iface T pv, recovered := false } :: older)) w fun e u' w' =>
      e = .returned (.tuple #[]) ∧ u' = .panicking ({ v := .iface T pv, recovered := true } :: older) ∧ w' = ((w.setCell ⟨H, 0, none⟩ (.slice none 0 0)).setCell ⟨H + 1, 0, none⟩ (.int .i64 0)).setCell ⟨H + 2, 0, none⟩ (.bool false) := by
  have c0 := cell_at (i := 0) h0 rfl
  have f0 := frozen_at (i := 0) h0
  have h1' := (heap_setCell_other w ⟨H, 0, none⟩ (H + 1) (.slice none 0 0) (by simp)).trans h1
  have g1 := cell_at (i := 0) h1' rfl
  have k1 := frozen_at (i := 0) h1'
  have h2' := (heap_setCell_other (w.setCell ⟨H, 0, none⟩ (.slice none 0 0)) ⟨H + 1, 0, none⟩ (H + 2) (.int .i64 0) (by simp)).trans ((heap_setCell_other w ⟨H, 0, none⟩ (H + 2) (.slice none 0 0) (by simp)).trans h2)
  have g2 := cell_at (i := 0) h2' rfl
  have k2 := frozen_at (i := 0) h2'
  clear h0 h1 h2 h1' h2'
  refine callsD_of_wpS Tryz.func114 rfl fun c₀ cs hu => ?_
  apply wpS_seq
  apply wpS_region
  simp [wpOpsS, go_sem, recoverD, hu, Tryz.ntmps114, Exit.thenS]
  refine wpS_cond (t := true) (by simp [Act.eval, Array.replicate]) ?_
  simp only [if_true]
  apply wpS_region
  simp [wpOpsS, go_sem, c0, f0, g1, k1, g2, k2, bodyPostS, results, Tryz.results114]
set_option maxRecDepth 100000 in
set_option maxHeartbeats 1000000 in
theorem get_idle (p q r : Addr) (w : World) :
    CallsD Tryz.prog 114 #[.pointer (some p), .pointer (some q), .pointer (some r)] .returning w fun e u' w' => e = .returned (.tuple #[]) ∧ u' = .returning ∧ w' = w := by
  refine callsD_of_wpS Tryz.func114 rfl fun c₀ cs hu => ?_
  apply wpS_seq
  apply wpS_region
  simp [wpOpsS, go_sem, recoverD, hu, Tryz.ntmps114, Exit.thenS]
  refine wpS_cond (t := false) (by simp [Act.eval, Array.replicate]) ?_
  simp only [Bool.false_eq_true, if_false]
  refine wpS_of_wp (wp_skip ?_)
  cases c₀
  simp_all [bodyPostS, results, Tryz.results114]
end Go.Proofs.YtbilkeadhflibaaGreatDoor.Sel

/- A selector that is made term by term: its own row, and what lies in it; the step of an append in a region that draws. -/
namespace Go.Proofs.YtbilkeadhflibaaGreatDoor.Sel
open Go.RowKit Go.Proofs.YtbilkeadhflibaaGreatDoor.Texts Go.Proofs.YtbilkeadhflibaaGreatDoor.Word Go.Proofs.YtbilkeadhflibaaGreatDoor.Forms Go.Proofs.YtbilkeadhflibaaGreatDoor.Boxes

theorem step_own {P : Program} (w : World) {ops : Array Oper} {o : Oper} {a : Act} {K : Act → World → Prop} {Q : Exit → Act → World → Prop} {E : Prop} (hgd : o.guard = none) (s x : Operand) (t : TypeId)
    (ho : o.op = .call { callee := .builtin .append, args := #[s, x], argTypes := #[t, t] })
    (base : Nat) (e : TypeId) (i : TypeInfo) (z : Value) (size bytes : Nat) (ht : P.underlying t = some (.slice e)) (hi : P.info? e = some i) (hz : i.zero = some z)
    (hsize : i.size = size) (hby : i.bytes = bytes) (hzs : z.cells.size = size) (hsz : 0 < size)
    (v : Value) (n : Nat) (xs : List Value) (hs : a.eval s = v) (hown : w.ownsRow base e size v n xs)
    (ad : Addr) (m c : Nat) (news : List Value) (hx : a.eval x = .slice (some ad) m c) (hl : news.length = m * size) (hnews : ∀ j u, news[j]? = some u → w.cell? (ad.add j) = some u) (h1 : ∀ u ∈ news, u.oneCell' = true)
    (h63 : n + m ≤ maxLen) (hbytes : (n + m) * bytes ≤ 140737488355328) (hbase : base ≤ w.heap.size)
    (h : ∀ v' w', w'.ownsRow base e size v' (n + m) (xs ++ news) → w.grownBy w' v.ownBlock → K (a.put o.dst v') w') :
    if Region.wanted o (yielded ops a.tmps) = true then Oper.wp P o a w K Q else E := by
  have hw : Region.wanted o (yielded ops a.tmps) = true := by simp [Region.wanted, hgd]
  rw [if_pos hw]
  exact wp_append_own w s x t ho base e i z size bytes ht hi hz hsize hby hzs hsz v n xs hs hown ad m c news hx hl hnews h1 h63 hbytes hbase fun v' w' h2 h3 _ => h v' w' h2 h3

def tcells (x : Tm × Value) : List Value := [.string x.1.1, .bool x.1.2.1, x.2]
def tvals (xs : List (Tm × Value)) : List Value := xs.flatMap tcells
theorem tvals_snoc (xs : List (Tm × Value)) (x : Tm × Value) : tvals (xs ++ [x]) = tvals xs ++ tcells x := by simp [tvals]
theorem tvals_at : ∀ (xs : List (Tm × Value)) (j : Nat) (x : Tm × Value), xs[j]? = some x → (tvals xs)[j * 3]? = some (.string x.1.1) ∧ (tvals xs)[j * 3 + 1]? = some (.bool x.1.2.1) ∧ (tvals xs)[j * 3 + 2]? = some x.2
  | [], j, x, h => by simp at h
  | a :: r, 0, x, h => by simp at h; subst h; exact ⟨rfl, rfl, rfl⟩
  | a :: r, j + 1, x, h => by
    obtain ⟨h1, h2, h3⟩ := tvals_at r j x (by simpa using h)
    have e : tvals (a :: r) = .string a.1.1 :: .bool a.1.2.1 :: a.2 :: tvals r := rfl
    rw [e, show (j + 1) * 3 = j * 3 + 1 + 1 + 1 by omega]
    exact ⟨h1, h2, h3⟩
theorem own_trow {B : Nat} {T : TypeId} {w : World} {v : Value} {xs : List (Tm × Value)} (h : w.ownsRow B T 3 v xs.length (tvals xs)) (hs : ∀ x ∈ xs, SRow w x.2 x.1.2.2) : TRow w v (xs.map (·.1)) := by
  have hc := fun g hg => h.cells (g := g) hg
  rcases h.2 with ⟨rfl, h0⟩ | ⟨g, cap, cur, rfl, hB, hg, hcap, hm, hsz, htake⟩
  · rw [List.eq_nil_of_length_eq_zero h0]; exact TRow.nil w
  · by_cases hl : xs = []
    · subst hl; exact .inl ⟨rfl, _, _, rfl, hm⟩
    · refine .inr ⟨by simp [hl], g, 0, cap, by rw [List.length_map], (Array.getElem?_eq_some_iff.1 hg).1, by rw [List.length_map]; exact hcap, hm, fun j t hj => ?_⟩
      rw [List.getElem?_map] at hj
      cases hx : xs[j]? with
      | none => rw [hx] at hj; simp at hj
      | some x =>
        rw [hx] at hj
        simp only [Option.map_some, Option.some.injEq] at hj
        subst hj
        obtain ⟨h1, h2, h3⟩ := tvals_at xs j x hx
        have e1 := hc g rfl _ _ h1
        have e2 := hc g rfl _ _ h2
        have e3 := hc g rfl _ _ h3
        rw [Addr.add_lit] at e1 e2 e3
        exact ⟨e1, by rw [Nat.add_assoc]; exact e2, _, by rw [Nat.add_assoc]; exact e3, hs x (List.mem_of_getElem? hx)⟩
theorem infoT : (Tryz.prog.info? 102).map (fun i => (i.zero, i.size, i.bytes)) = some (some (.agg #[.string ByteArray.empty, .bool false, .slice none 0 0]), 3, 48) := by kernel_rfl
theorem new3 (w : World) (a b c : Value) (T : TypeId) : ∀ j u, [a, b, c][j]? = some u → (w.alloc (.cells #[a, b, c] T)).cell? ((⟨w.heap.size, 0, none⟩ : Addr).add j) = some u := fun j u hj => by
  obtain ⟨h1, h2, h3, _⟩ := cells3 (fresh w (.cells #[a, b, c] T))
  rw [Addr.add_lit]
  match j with
  | 0 => simp at hj; subst hj; exact h1
  | 1 => simp at hj; subst hj; exact h2
  | 2 => simp at hj; subst hj; exact h3
  | (n + 3) => simp at hj
theorem one3 (k : ByteArray) (n : Bool) (a : Option Addr) (m c : Nat) : ∀ u ∈ [Value.string k, .bool n, .slice a m c], u.oneCell' = true := fun u hu => by
  simp at hu
  rcases hu with rfl | rfl | rfl <;> rfl
/-- The terms that were made: each value's row stands from a block on. -/
def Made (B : Nat) (w : World) (xs : List (Tm × Value)) : Prop := ∀ x ∈ xs, SNew B w x.2 x.1.2.2
theorem Made.below {B : Nat} {w w' : World} {xs : List (Tm × Value)} (h : Made B w xs) (hb : Below w.heap.size w w') : Made B w' xs := fun x hx => (h x hx).below hb
theorem Made.but {B R : Nat} {w w' : World} {xs : List (Tm × Value)} (h : Made B w xs) (hb : But R w w') (hR : R < B) : Made B w' xs := fun x hx => (h x hx).but hb hR
theorem Made.snoc {B : Nat} {w : World} {xs : List (Tm × Value)} {x : Tm × Value} (h : Made B w xs) (hx : SNew B w x.2 x.1.2.2) : Made B w (xs ++ [x]) := fun y hy => by
  rcases List.mem_append.1 hy with hy | hy
  · exact h y hy
  · rw [List.mem_singleton.1 hy]; exact hx
end Go.Proofs.YtbilkeadhflibaaGreatDoor.Sel

/- What sel.Parse answers of every text; of memory that was there nothing turns. -/
namespace Go.Proofs.YtbilkeadhflibaaGreatDoor.Sel
open Go.RowKit Go.Proofs.YtbilkeadhflibaaGreatDoor.Texts Go.Proofs.YtbilkeadhflibaaGreatDoor.Word Go.Proofs.YtbilkeadhflibaaGreatDoor.Forms Go.Proofs.YtbilkeadhflibaaGreatDoor.Split Go.Proofs.YtbilkeadhflibaaGreatDoor.Boxes

/-- What is told of a selector, or of none. -/
def TellsS (r : Option (List Tm)) (w : World) (e : Ending) (w' : World) : Prop := (match r with
  | none => e = .returned (.tuple #[.slice none 0 0, .bool false])
  | some ls => ∃ v, e = .returned (.tuple #[v, .bool true]) ∧ TRow w' v ls) ∧ Below w.heap.size w w'

set_option maxHeartbeats 1000000 in
set_option maxRecDepth 100000 in
theorem parse_dash (w : World) : Calls Tryz.prog 83 #[.string ⟨#[45]⟩] w (TellsS (some []) w) := by
  have hmf : ∀ (fn : Fn) (first cap : Array Value) (w : World), (Instr.makeFunc fn first cap).run Tryz.prog w = .ok (.func fn first cap) w := fun _ _ _ _ => rfl
  go_enter_defers Tryz.func83, Tryz.ntmps83
  go_wp2
  refine leaves_cons (f := 119) (args := #[.pointer (some ⟨w.heap.size, 0, none⟩), .pointer (some ⟨w.heap.size + 1, 0, none⟩)]) (by simp) (by simp [go_sem]) ?_
  refine (parse_idle _ _ _).mono ?_
  rintro e u' w1 ⟨rfl, rfl, rfl⟩
  simp [Leaves, settle, results, Tryz.results83, go_sem]
  exact ⟨⟨_, rfl, TRow.nil _⟩, grows (grew w _) (grew _ _)⟩

/-- The two answers' variables behind a panic. -/
theorem fallen {H : Nat} {w0 w : World} {x y : Value} (hb : Below H w0 w) (h0 : w.heap[H]? = some (.cells #[x] 25)) (h1 : w.heap[H + 1]? = some (.cells #[y] 4)) :
    ((w.setCell ⟨H, 0, none⟩ (.slice none 0 0)).setCell ⟨H + 1, 0, none⟩ (.bool false)).cell? ⟨H, 0, none⟩ = some (.slice none 0 0) ∧ ((w.setCell ⟨H, 0, none⟩ (.slice none 0 0)).setCell ⟨H + 1, 0, none⟩ (.bool false)).cell? ⟨H + 1, 0, none⟩ = some (.bool false) ∧
    Below H w0 ((w.setCell ⟨H, 0, none⟩ (.slice none 0 0)).setCell ⟨H + 1, 0, none⟩ (.bool false)) := by
  have a0 := heap_setCell_same w H 0 _ _ (.slice none 0 0) h0
  have a1 := (heap_setCell_other w ⟨H, 0, none⟩ (H + 1) (.slice none 0 0) (by simp)).trans h1
  have b0 := (heap_setCell_other (w.setCell ⟨H, 0, none⟩ (.slice none 0 0)) ⟨H + 1, 0, none⟩ H (.bool false) (by simp)).trans a0
  have b1 := heap_setCell_same _ (H + 1) 0 _ _ (.bool false) a1
  exact ⟨cell_at (i := 0) b0 rfl, cell_at (i := 0) b1 rfl, (hb.setCell (Nat.le_refl _) _).setCell (by simp) _⟩

set_option maxHeartbeats 1000000 in
set_option maxRecDepth 100000 in
theorem parse_many (s : ByteArray) (hs : s.size ≤ 4611686018427387904) (hd : (s.toList == [45]) = false) (h4 : 4 < (cuts 44 s.data.toList).length) (w : World) (hE : Err w) : Calls Tryz.prog 83 #[.string s] w (TellsS none w) := by
  have hmf : ∀ (fn : Fn) (first cap : Array Value) (w : World), (Instr.makeFunc fn first cap).run Tryz.prog w = .ok (.func fn first cap) w := fun _ _ _ _ => rfl
  have HE : Hid (∀ W, Below w.heap.size w W → Err W) := Lib.hid fun W h => hE.below h
  have HS : Hid (∀ W, Err W → Calls Tryz.prog 120 #[.string s, .string ⟨#[44]⟩, .int .i64 4] W fun e w' => Falls e ∧ Below W.heap.size W w') := Lib.hid fun W h => split_no 44 s hs h4 W h
  clear hE h4
  go_enter_defers Tryz.func83, Tryz.ntmps83
  go_wp2_with fail
  refine (HS.out _ (HE.out _ (grows (grew w _) (grew _ _)))).mono ?_
  rintro e w1 ⟨⟨T, p, rfl⟩, hb1⟩
  have h0 := keep (keep (fresh w _) (old _ _)) hb1
  have h1 := keep (fresh1 w _ _) hb1
  have hb := grows (grows (grew w _) (grew _ _)) hb1
  go_wp2
  refine leaves_cons (f := 119) (args := #[.pointer (some ⟨w.heap.size, 0, none⟩), .pointer (some ⟨w.heap.size + 1, 0, none⟩)]) (by simp) (by simp [go_sem]) ?_
  refine (parse_catch w.heap.size _ _ p T [] _ h0 h1).mono ?_
  rintro e u' w2 ⟨rfl, rfl, rfl⟩
  obtain ⟨c0, c1, hbz⟩ := fallen hb h0 h1
  simp [Leaves, settle, results, Tryz.results83, go_sem, c0, c1]
  exact ⟨rfl, hbz⟩
end Go.Proofs.YtbilkeadhflibaaGreatDoor.Sel

/- Rows of texts that stand in blocks of some kind, kept while others are written; of no program. -/
namespace Go.Proofs.YtbilkeadhflibaaGreatDoor.Sel
open Go.RowKit Go.Proofs.YtbilkeadhflibaaGreatDoor.Texts Go.Proofs.YtbilkeadhflibaaGreatDoor.Boxes

/-- A slice of texts whose row stands in a block of that kind. -/
def SIn (p : Nat → Prop) (w : World) (v : Value) (ts : List ByteArray) : Prop := SRow w v ts ∧ ∀ g o n c, v = .slice (some ⟨g, o, none⟩) n c → ts ≠ [] → p g
theorem SIn.row {p : Nat → Prop} {w : World} {v : Value} {ts : List ByteArray} (h : SIn p w v ts) : SRow w v ts := h.1
theorem SIn.kept {p q : Nat → Prop} {w w' : World} {v : Value} {ts : List ByteArray} (h : SIn p w v ts) (hs : w.heap.size ≤ w'.heap.size) (hk : ∀ g, p g → g < w.heap.size → w'.heap[g]? = w.heap[g]? ∧ q g) : SIn q w' v ts := by
  have hlt : ∀ g o n c, v = .slice (some ⟨g, o, none⟩) n c → ts ≠ [] → g < w.heap.size := fun g o n c e hn => by
    rcases h.1 with ⟨h1, _⟩ | ⟨_, g', o', c', h1, h2, _⟩
    · exact absurd h1 hn
    · rw [e] at h1
      injection h1 with h1 _ _
      injection h1 with h1
      injection h1 with h1 _ _
      omega
  refine ⟨?_, fun g o n c e hn => (hk g (h.2 g o n c e hn) (hlt g o n c e hn)).2⟩
  rcases h.1 with h1 | ⟨h0, g, o, cap, h1, h2, h3, h4, h5⟩
  · exact .inl h1
  · refine .inr ⟨h0, g, o, cap, h1, by omega, h3, h4, fun j t hj => ?_⟩
    rw [World.cell?_of_block (w := w) (w' := w') (a := ⟨g, o + j, none⟩) (hk g (h.2 g o _ _ h1 h0) h2).1]
    exact h5 j t hj
theorem SNew.sin {B : Nat} {w : World} {v : Value} {ts : List ByteArray} (h : SNew B w v ts) : SIn (fun g => B ≤ g) w v ts := h
/-- The terms that were made, each in blocks of that kind. -/
def In (p : Nat → Prop) (w : World) (xs : List (Tm × Value)) : Prop := ∀ x ∈ xs, SIn p w x.2 x.1.2.2
theorem In.kept {p q : Nat → Prop} {w w' : World} {xs : List (Tm × Value)} (h : In p w xs) (hs : w.heap.size ≤ w'.heap.size) (hk : ∀ g, p g → g < w.heap.size → w'.heap[g]? = w.heap[g]? ∧ q g) : In q w' xs := fun x hx => (h x hx).kept hs hk
theorem In.snoc {p : Nat → Prop} {w : World} {xs : List (Tm × Value)} {x : Tm × Value} (h : In p w xs) (hx : SIn p w x.2 x.1.2.2) : In p w (xs ++ [x]) := fun y hy => by
  rcases List.mem_append.1 hy with hy | hy
  · exact h y hy
  · rw [List.mem_singleton.1 hy]; exact hx
/-- The kind: from a block on, and not the one that a row of one's own stands in. -/
def Beside (B : Nat) (v : Value) (g : Nat) : Prop := B ≤ g ∧ v.ownBlock ≠ some g

/-- What lies in memory while a selector is made: its variable, its row, what stands in it. -/
structure Making (H B : Nat) (w : World) (v : Value) (xs : List (Tm × Value)) : Prop where
  cell : w.heap[H]? = some (.cells #[v] 25)
  own : w.ownsRow B 102 3 v xs.length (tvals xs)
  terms : In (Beside B v) w xs
theorem Making.trow {H B : Nat} {w : World} {v : Value} {xs : List (Tm × Value)} (h : Making H B w v xs) : TRow w v (xs.map (·.1)) := own_trow h.own fun x hx => (h.terms x hx).1
/-- One more term, appended and stored. -/
theorem Making.step {H B : Nat} {w w3 w4 : World} {v : Value} {xs : List (Tm × Value)} {t : Tm} {s : Value} {g cap : Nat} {o : Obj} (hH : H < B) (h : Making H B w v xs) {q : Nat → Prop} (hqH : q H) (hqB : ∀ k, B ≤ k → q k) (hBw : B ≤ w.heap.size) (h3s : w.heap.size ≤ w3.heap.size) (h3 : ∀ k, k < w.heap.size → q k → w3.heap[k]? = w.heap[k]?) (hs : SNew w.heap.size w3 s t.2.2)
    (hown : w4.ownsRow B 102 3 (.slice (some ⟨g, 0, none⟩) (xs.length + 1) cap) (xs.length + 1) (tvals xs ++ tcells (t, s)))
    (hgrow : (w3.alloc o).grownBy w4 v.ownBlock) (hat : v.ownBlock = some g ∨ g = w3.heap.size + 1) :
    Making H B (w4.setCell ⟨H, 0, none⟩ (.slice (some ⟨g, 0, none⟩) (xs.length + 1) cap)) (.slice (some ⟨g, 0, none⟩) (xs.length + 1) cap) (xs ++ [(t, s)]) ∧
    (∀ k, k < w.heap.size → q k → k ≠ H → v.ownBlock ≠ some k → (w4.setCell ⟨H, 0, none⟩ (.slice (some ⟨g, 0, none⟩) (xs.length + 1) cap)).heap[k]? = w.heap[k]?) ∧ w.heap.size ≤ w4.heap.size ∧ (∀ k, v.ownBlock = some k → B ≤ k ∧ k < w.heap.size) := by
  have hvo : ∀ k, v.ownBlock = some k → B ≤ k ∧ k < w.heap.size := fun k hk => h.own.lt k hk
  have hsz : w3.heap.size + 1 ≤ w4.heap.size := by have := hgrow.size; rw [size_alloc] at this; exact this
  have keep3 : ∀ k, k < w3.heap.size → k ≠ H → v.ownBlock ≠ some k → (w4.setCell ⟨H, 0, none⟩ (.slice (some ⟨g, 0, none⟩) (xs.length + 1) cap)).heap[k]? = w3.heap[k]? := fun k hk hn ho => by
    rw [heap_setCell_other _ _ _ _ (by simpa using hn), hgrow.block k (by rw [size_alloc]; omega) (fun e => ho e.symm)]
    exact Below.heap_alloc _ _ _ hk
  have hg : v.ownBlock = some g ∨ w3.heap.size < g := hat.imp id (by omega)
  refine ⟨⟨?_, ?_, ?_⟩, fun k hk hq hn ho => (keep3 k (by omega) hn ho).trans (h3 k hk hq), by omega, hvo⟩
  · have hc : w4.heap[H]? = some (.cells #[v] 25) := by
      have hHw := lt_of h.cell
      rw [hgrow.block H (by rw [size_alloc]; omega) (fun e => by have := hvo H e.symm; omega), Below.heap_alloc _ _ _ (by omega), h3 H hHw hqH]
      exact h.cell
    exact heap_setCell_same _ H 0 _ _ _ hc
  · rw [List.length_append, tvals_snoc]
    exact ownsRow_setCell_below hown (by simpa using hH) _
  · refine In.snoc ?_ ?_
    · refine h.terms.kept (by simp; omega) fun k ⟨hk1, hk2⟩ hk3 => ⟨(keep3 k (by omega) (by omega) hk2).trans (h3 k hk3 (hqB k hk1)), hk1, ?_⟩
      rcases hg with hg | hg
      · intro e
        simp [Value.ownBlock] at e
        subst e
        exact hk2 hg
      · intro e
        simp [Value.ownBlock] at e
        omega
    · refine hs.sin.kept (by simp; omega) fun k hk1 hk3 => ⟨keep3 k hk3 (by omega) (fun e => by have := hvo k e; omega), by omega, ?_⟩
      rcases hg with hg | hg
      · intro e
        simp [Value.ownBlock] at e
        subst e
        have := hvo _ hg
        omega
      · intro e
        simp [Value.ownBlock] at e
        omega
end Go.Proofs.YtbilkeadhflibaaGreatDoor.Sel

/- What sel.Parse answers of a text of at most four pieces: piece by piece. -/
namespace Go.Proofs.YtbilkeadhflibaaGreatDoor.Sel
open Go.RowKit Go.Proofs.YtbilkeadhflibaaGreatDoor.Texts Go.Proofs.YtbilkeadhflibaaGreatDoor.Word Go.Proofs.YtbilkeadhflibaaGreatDoor.Forms Go.Proofs.YtbilkeadhflibaaGreatDoor.Split Go.Proofs.YtbilkeadhflibaaGreatDoor.Boxes

/-- What the pieces tell. -/
def told (ps : List (List UInt8)) : Option (List Tm) := if ps.all (fun q => rightT (readP q)) = true then some (ps.map readP) else none
theorem told_no {ps : List (List UInt8)} {k : Nat} {q : List UInt8} (hq : ps[k]? = some q) (h : rightT (readP q) = false) : told ps = none := by
  unfold told
  rw [if_neg]
  intro ha
  have := List.all_eq_true.1 ha q (List.mem_of_getElem? hq)
  rw [h] at this
  cases this

set_option maxHeartbeats 2000000 in
set_option maxRecDepth 100000 in
theorem parse_few (s : ByteArray) (hs : s.size ≤ 4611686018427387904) (hd : (s.toList == [45]) = false) (ps : List (List UInt8)) (hps : cuts 44 s.data.toList = ps) (h4 : ps.length ≤ 4) (w : World) (hE : Err w) : Calls Tryz.prog 83 #[.string s] w (TellsS (told ps) w) := by
  obtain ⟨i0, hi, hz0, hz1, hz2⟩ := info_parts infoT
  have hmf : ∀ (fn : Fn) (first cap : Array Value) (w : World), (Instr.makeFunc fn first cap).run Tryz.prog w = .ok (.func fn first cap) w := fun _ _ _ _ => rfl
  have HE : Hid (∀ W, Below w.heap.size w W → Err W) := Lib.hid fun W h => hE.below h
  have HS := Lib.hid (split_new 44 s hs (by rw [hps]; exact h4))
  rw [hps] at HS
  have hlen : ∀ q ∈ ps, q.length ≤ s.size := fun q hq => by rw [← size_list]; rw [← hps] at hq; exact (cuts_len 44 s.data.toList).2 q hq
  have HL := Lib.hid hlen
  clear hE hps hlen
  go_enter_defers Tryz.func83, Tryz.ntmps83
  go_wp2_with fail
  refine (HS.out _).mono ?_
  rintro e w1 ⟨⟨pa, pc, rfl, hpv⟩, hb1⟩
  have h0 := keep (keep (fresh w _) (old _ _)) hb1
  have h1 := keep (fresh1 w _ _) hb1
  have hb := grows (grows (grew w _) (grew _ _)) hb1
  rw [size_alloc, size_alloc] at hpv
  rw [List.length_map] at hpv ⊢
  have HP0 : Hid (SIn (fun g => w.heap.size + 1 < g ∧ g < w1.heap.size) w1 (.slice pa ps.length pc) (ps.map str)) := Lib.hid (by
    refine ⟨hpv.1, fun g o n c e hn => ⟨by have := hpv.2 g o n c e hn; omega, ?_⟩⟩
    rcases hpv.1 with ⟨h, _⟩ | ⟨_, g', o', c', h1, h2, _⟩
    · exact absurd h hn
    · rw [e] at h1
      injection h1 with h1 _ _
      injection h1 with h1
      injection h1 with h1 _ _
      omega)
  have hBH : w.heap.size + 1 < w1.heap.size := lt_of h1
  have HM0 : Hid (Making w.heap.size w1.heap.size w1 (.slice none 0 0) []) := Lib.hid ⟨h0, World.ownsRow_nil _ _ _ _, fun x hx => by simp at hx⟩
  have H1 := Lib.hid h1
  have HB := Lib.hid hb
  obtain ⟨B, hBe⟩ : ∃ B, B = w1.heap.size := ⟨_, rfl⟩
  rw [← hBe] at HP0 HM0 hBH
  have hBw : B ≤ w1.heap.size := by omega
  clear h0 h1 hb hpv hb1 hBe
  go_wp2_with fail
  go_loopw [12] (fun i wr => ∃ (k : Nat) (v : Value) (xs : List (Tm × Value)), k ≤ ps.length ∧ i = .int .i64 k ∧ xs.length = k ∧ xs.map (·.1) = (ps.take k).map readP ∧ (ps.take k).all (fun q => rightT (readP q)) = true ∧ Making w.heap.size B wr v xs ∧ wr.heap[w.heap.size + 1]? = some (.cells #[.bool false] 4) ∧
    SIn (fun g => w.heap.size + 1 < g ∧ g < B) wr (.slice pa ps.length pc) (ps.map str) ∧ B ≤ wr.heap.size ∧ Below w.heap.size w wr) (fun i _ => ps.length - (intOf i).toNat)
  case atStart => exact ⟨0, _, [], Nat.zero_le _, rfl, rfl, rfl, rfl, HM0.out, H1.out, HP0.out, hBw, HB.out⟩
  case round =>
    obtain ⟨k, v, xs, hk, rfl, hxl, hxm, hall, hmk, h1, hpv, hBr, hb⟩ := hrel
    have HXL := Lib.hid hxl
    have HXM := Lib.hid hxm
    have HAll := Lib.hid hall
    have HMK := Lib.hid hmk
    have HPV := Lib.hid hpv
    have HH1 := Lib.hid h1
    clear hxl hxm hall hpv
    have hc0 := cell_at (i := 0) hmk.cell rfl
    have hlH := lt_of hmk.cell
    by_cases hlt : k < ps.length
    · have hltz : (k : Int) < (ps.length : Int) := by omega
      obtain ⟨g, o, rfl, hg, hcell⟩ := HPV.out.1.cells (k := k) (by rw [List.length_map]; exact hlt)
      obtain ⟨q, hq⟩ : ∃ q, ps[k]? = some q := ⟨_, List.getElem?_eq_getElem hlt⟩
      have hc := hcell k (str q) (by rw [List.getElem?_map, hq]; rfl)
      have HQ := Lib.hid hq
      have hql := HL.out q (List.mem_of_getElem? hq)
      obtain ⟨r, hr⟩ : ∃ r, rightT (readP q) = r := ⟨_, rfl⟩
      have HR := Lib.hid hr
      cases r with
      | true =>
        have HT : Hid (∀ W, Calls Tryz.prog 121 #[.string (str q)] W (Read (readP q) W)) := Lib.hid fun W => by
          have := parseTerm_yes (str q) (by rw [str_len]; omega) (by rw [str_toList]; exact hr) W
          rw [str_toList] at this
          exact this
        have hvf : ∃ va vn vc, v = .slice va vn vc := by
          rcases hmk.own.2 with ⟨h, _⟩ | ⟨g, cap, cur, h, _⟩
          · exact ⟨_, _, _, h⟩
          · exact ⟨_, _, _, h⟩
        obtain ⟨va, vn, vc, rfl⟩ := hvf
        obtain ⟨t, ht⟩ : ∃ t, t = readP q := ⟨_, rfl⟩
        rw [← ht] at HT
        have HTe := Lib.hid ht
        have HOw := Lib.hid hmk.own
        have HMax : Hid (xs.length + 1 ≤ maxLen ∧ (xs.length + 1) * 48 ≤ 140737488355328) := Lib.hid (by have := HXL.out; unfold maxLen; omega)
        have HKeep : Hid (∀ W, Below wr.heap.size wr W → W.cell? ⟨w.heap.size, 0, none⟩ = some (.slice va vn vc) ∧ W.frozen? ⟨w.heap.size, 0, none⟩ = false) := Lib.hid fun W h => ⟨cell_at (i := 0) (keep hmk.cell h) rfl, frozen_at (i := 0) (keep hmk.cell h)⟩
        have HKeep4 : Hid (∀ W W' o, Below wr.heap.size wr W → (W.alloc o).grownBy W' (Value.slice va vn vc).ownBlock → W'.cell? ⟨w.heap.size, 0, none⟩ = some (.slice va vn vc) ∧ W'.frozen? ⟨w.heap.size, 0, none⟩ = false) := Lib.hid fun W W' o h hg => by
          have h3 := keep (keep hmk.cell h) (old W o)
          have h4 : W'.heap[w.heap.size]? = some (.cells #[.slice va vn vc] 25) := (hg.block _ (lt_of h3) (fun e => by have := hmk.own.lt _ e.symm; omega)).trans h3
          exact ⟨cell_at (i := 0) h4 rfl, frozen_at (i := 0) h4⟩
        obtain ⟨hf0, hf1⟩ := HKeep.out wr (Below.refl _ _)
        clear hq hr hcell ht hmk h1 hf0
        obtain ⟨tk, tn, tv⟩ := t
        go_wp2_with fail
        first | (go_region_law (first
          | (refine step_append_lies _ rfl _ _ 25 rfl B 102 i0 (.agg #[.string ByteArray.empty, .bool false, .slice none 0 0]) 3 48 Tryz.underlying25 hi hz0 hz1 hz2 rfl (by decide) (.slice va vn vc) xs.length (tvals xs) rfl (own_below (own_below HOw.out hb3.out) (old w3 _)) ⟨w3.heap.size, 0, none⟩ 1 1 [.string tk, .bool tn, .slice sa tv.length sc] rfl rfl (new3 w3 _ _ _ _) (one3 _ _ _ _ _) (by decide) HMax.out.1 HMax.out.2 (by rw [size_alloc]; have := hb3.out.size; omega) (w3.heap.size + 1) (size_alloc _ _) ?_; intro g4 cap4 w4 hown4 hgrow4 hat4 _; have HOwn4 := Lib.hid hown4; have HGrow4 := Lib.hid hgrow4; have HAt4 := Lib.hid hat4; obtain ⟨e4, f4⟩ := HKeep4.out w3 w4 _ hb3.out hgrow4; clear hown4 hgrow4 hat4)
          | (go_simp; go_at_call 121; (with_reducible refine (HT.out _).mono ?_); rintro e w3 ⟨⟨v3, rfl, s3, rfl, hs3⟩, hb30⟩; obtain ⟨sa, sc, rfl, _, _⟩ := hs3.1.slice; have hb3 : Hid (Below wr.heap.size wr w3) := Lib.hid (grows ((Below.refl _ wr).drew) hb30); have HS3 : Hid (SNew wr.heap.size w3 (.slice sa tv.length sc) tv) := Lib.hid hs3; obtain ⟨e3, f3⟩ := HKeep.out w3 hb3.out; obtain ⟨e3a, f3a⟩ := HKeep.out (w3.alloc (.cells #[.string tk, .bool tn, .slice sa tv.length sc] 102)) (grows hb3.out (old _ _)); clear hb30 hs3))) | fail
        all_goals
          go_wp2
          go_roundw
          case rel =>
            obtain ⟨hm5, hk5, hsz5, _⟩ := Making.step (q := fun _ => True) (by omega) HMK.out trivial (fun _ _ => trivial) hBr hb3.out.size (fun k hk _ => hb3.out.block k hk) (t := (tk, tn, tv)) HS3.out HOwn4.out HGrow4.out HAt4.out
            have hvo : ∀ k, (Value.slice va vn vc).ownBlock = some k → B ≤ k := fun k hk => (HMK.out.own.lt k hk).1
            refine ⟨k + 1, _, _, by omega, by go_num, ?_, ?_, ?_, hm5, ?_, ?_, ?_, ?_⟩
            · rw [List.length_append, HXL.out]; rfl
            · rw [List.map_append, HXM.out, List.take_add_one, HQ.out, List.map_append, Option.toList_some, List.map_cons, List.map_nil, List.map_cons, List.map_nil, ← HTe.out]
            · rw [List.take_add_one, HQ.out, List.all_append, HAll.out, Option.toList_some]; simp [HR.out]
            · exact (hk5 _ (by omega) trivial (by omega) (fun e => by have := hvo _ e; omega)).trans HH1.out
            · exact HPV.out.kept (by simpa using hsz5) fun g ⟨hg1, hg2⟩ hg3 => ⟨hk5 g hg3 trivial (by omega) (fun e => by have := hvo _ e; omega), hg1, hg2⟩
            · simp; omega
            · have b3 := hb.trans (hb3.out.mono hb.size)
              exact ((b3.alloc b3.size _).grown HGrow4.out (by rw [size_alloc]; have := b3.size; omega) (fun k hk => by have := hvo k hk; omega)).setCell (Nat.le_refl _) _
          case measure => simp [intOf]; omega
      | false =>
        have HT : Hid (∀ W, Below wr.heap.size wr W → Calls Tryz.prog 121 #[.string (str q)] W fun e w' => Falls e ∧ Below W.heap.size W w') := Lib.hid fun W h => parseTerm_no (str q) (by rw [str_len]; omega) (by rw [str_toList]; exact hr) W (HE.out W (grows hb h))
        have HN : Hid (told ps = none) := Lib.hid (told_no hq hr)
        clear hq hr hcell hmk h1
        go_wp2_with fail
        first | go_region_dies | fail
        all_goals
          with_reducible refine (HT.out _ ((Below.refl _ wr).drew)).mono ?_
          rintro e w3 ⟨⟨T3, p3, rfl⟩, hb30⟩
          have hb3 := grows ((Below.refl _ wr).drew) hb30
          clear hb30
          go_wp2
          refine leaves_cons (f := 119) (args := #[.pointer (some ⟨w.heap.size, 0, none⟩), .pointer (some ⟨w.heap.size + 1, 0, none⟩)]) (by simp) (by simp [go_sem]) ?_
          refine (parse_catch w.heap.size _ _ p3 T3 [] _ (keep HMK.out.cell hb3) (keep HH1.out hb3)).mono ?_
          rintro e u' w2 ⟨rfl, rfl, rfl⟩
          obtain ⟨d0, d1, hbz⟩ := fallen (grows hb hb3) (keep HMK.out.cell hb3) (keep HH1.out hb3)
          rw [HN.out]
          simp [Leaves, settle, results, Tryz.results83, go_sem, d0, d1]
          exact ⟨rfl, hbz⟩
    · have hltz : ¬ ((k : Int) < (ps.length : Int)) := by omega
      have hvf : ∃ va vn vc, v = .slice va vn vc := by
        rcases hmk.own.2 with ⟨h, _⟩ | ⟨g, cap, cur, h, _⟩
        · exact ⟨_, _, _, h⟩
        · exact ⟨_, _, _, h⟩
      obtain ⟨va, vn, vc, rfl⟩ := hvf
      have hf0 := frozen_at (i := 0) hmk.cell
      have a0 := heap_setCell_same wr w.heap.size 0 _ _ (.slice va vn vc) hmk.cell
      have a1 := (heap_setCell_other wr ⟨w.heap.size, 0, none⟩ (w.heap.size + 1) (.slice va vn vc) (by simp)).trans h1
      have c1 := cell_at (i := 0) a1 rfl
      have f1 := frozen_at (i := 0) a1
      have b0 := (heap_setCell_other (wr.setCell ⟨w.heap.size, 0, none⟩ (.slice va vn vc)) ⟨w.heap.size + 1, 0, none⟩ w.heap.size (.bool true) (by simp)).trans a0
      have b1 := heap_setCell_same _ (w.heap.size + 1) 0 _ _ (.bool true) a1
      have d0 := cell_at (i := 0) b0 rfl
      have d1 := cell_at (i := 0) b1 rfl
      have HBz := Lib.hid ((hb.setCell (p := ⟨w.heap.size, 0, none⟩) (Nat.le_refl _) (.slice va vn vc)).setCell (p := ⟨w.heap.size + 1, 0, none⟩) (by simp) (.bool true))
      have HZ : Hid (told ps = some (xs.map (·.1))) := Lib.hid (by
        have h1 := HAll.out
        have h2 := HXM.out
        rw [List.take_of_length_le (by omega)] at h1 h2
        unfold told
        rw [if_pos h1, h2])
      have HTR : Hid (TRow ((wr.setCell ⟨w.heap.size, 0, none⟩ (.slice va vn vc)).setCell ⟨w.heap.size + 1, 0, none⟩ (.bool true)) (.slice va vn vc) (xs.map (·.1))) := Lib.hid (own_trow (ownsRow_setCell_below (ownsRow_setCell_below HMK.out.own (by simp; omega) _) (by simp; omega) _) fun x hx => ((HMK.out.terms x hx).kept (q := fun _ => True) (by simp) fun g hg _ => ⟨by
        have := hg.1
        rw [heap_setCell_other _ _ _ _ (by simp; omega), heap_setCell_other _ _ _ _ (by simp; omega)], trivial⟩).1)
      clear a0 a1 b0 b1 hmk h1 hb
      go_wp2
      refine leaves_cons (f := 119) (args := #[.pointer (some ⟨w.heap.size, 0, none⟩), .pointer (some ⟨w.heap.size + 1, 0, none⟩)]) (by simp) (by simp [go_sem]) ?_
      refine (parse_idle _ _ _).mono ?_
      rintro e u' w2 ⟨rfl, rfl, rfl⟩
      rw [HZ.out]
      simp [Leaves, settle, results, Tryz.results83, go_sem, d0, d1]
      exact ⟨⟨_, rfl, HTR.out⟩, HBz.out⟩
end Go.Proofs.YtbilkeadhflibaaGreatDoor.Sel

/- What sel.Parse answers of every text, in one form: what the document's Parse tells. -/
namespace Go.Proofs.YtbilkeadhflibaaGreatDoor.Sel
open Go.RowKit Go.Proofs.YtbilkeadhflibaaGreatDoor.Texts Go.Proofs.YtbilkeadhflibaaGreatDoor.Word Go.Proofs.YtbilkeadhflibaaGreatDoor.Forms Go.Proofs.YtbilkeadhflibaaGreatDoor.Split Go.Proofs.YtbilkeadhflibaaGreatDoor.Boxes

theorem parse_any (s : ByteArray) (hs : s.size ≤ 4611686018427387904) (w : World) (hE : Err w) : Calls Tryz.prog 83 #[.string s] w (TellsS (parseS s) w) := by
  rw [← parseP_eq]
  unfold parseP
  by_cases h : s = ⟨#[45]⟩
  · rw [if_pos h]
    subst h
    exact parse_dash w
  · rw [if_neg h]
    have hd : (s.toList == [45]) = false := by
      have := beq_str s ⟨#[45]⟩
      rw [decide_eq_false h, Lib.toList_data ⟨#[45]⟩] at this
      exact this
    by_cases h4 : (cuts 44 s.data.toList).length ≤ 4
    · have := parse_few s hs hd _ rfl h4 w hE
      unfold told at this
      by_cases ha : (cuts 44 s.data.toList).all (fun q => rightT (readP q)) = true
      · rw [if_pos ha] at this
        rw [if_pos ⟨h4, ha⟩]
        exact this
      · rw [if_neg ha] at this
        rw [if_neg (fun hc => ha hc.2)]
        exact this
    · rw [if_neg (fun hc => h4 hc.1)]
      exact parse_many s hs hd (by omega) w hE
end Go.Proofs.YtbilkeadhflibaaGreatDoor.Sel

/- What sel.reader's number and text take, and where they leave by a panic; of memory the reader's place alone turns. -/
namespace Go.Proofs.YtbilkeadhflibaaGreatDoor.Sel
open Go.RowKit Go.Proofs.YtbilkeadhflibaaGreatDoor.Texts Go.Proofs.YtbilkeadhflibaaGreatDoor.Word Go.Proofs.YtbilkeadhflibaaGreatDoor.Forms Go.Proofs.YtbilkeadhflibaaGreatDoor.Split Go.Proofs.YtbilkeadhflibaaGreatDoor.Boxes

/-- The reader: a text and a place in it. -/
def Rd (R : Nat) (s : ByteArray) (p : Int) (w : World) : Prop := w.heap[R]? = some (.cells #[.string s, .int .i64 p] 150)
theorem Rd.below {R : Nat} {s : ByteArray} {p : Int} {w w' : World} (h : Rd R s p w) (hb : Below w.heap.size w w') : Rd R s p w' := keep h hb
theorem Rd.set {R : Nat} {s : ByteArray} {p : Int} {w : World} (h : Rd R s p w) (q : Int) : Rd R s q (w.setCell ⟨R, 1, none⟩ (.int .i64 q)) := heap_setCell_same w R 1 _ _ (.int .i64 q) h
/-- What was taken: a value, and the place behind it. -/
def Took (R : Nat) (s : ByteArray) (v : Value) (q : Int) (w : World) (e : Ending) (w' : World) : Prop := e = .returned v ∧ Rd R s q w' ∧ But R w w'

set_option maxHeartbeats 1000000 in
set_option maxRecDepth 100000 in
theorem number_yes (R : Nat) (s : ByteArray) (hs : s.size ≤ 9223372036854775807) (p : Int) (most u n : Nat) (h : Wire.getV s.data.toList p = some (u, n)) (hu : u ≤ most) (hm : most ≤ 9) (w : World) (hr : Rd R s p w) :
    Calls Tryz.prog 115 #[.pointer (some ⟨R, 0, none⟩), .int .u64 (most : Int)] w (Took R s (.int .i64 (u : Int)) (n : Int) w) := by
  have HG : Hid (∀ W, Calls Tryz.prog 77 #[.string s, .int .i64 p] W fun e w' => e = .returned (.tuple #[.int .u64 (u : Int), .int .i64 (n : Int), .bool true]) ∧ Below W.heap.size W w') := Lib.hid fun W => Wire.get_yes s hs p u n h W
  have hR := lt_of hr
  have q0 := Quiet.cell (a := ⟨R, 0, none⟩) hR (cell_at (i := 0) hr rfl)
  have q1 := Quiet.cell (a := ⟨R, 1, none⟩) hR (cell_at (i := 1) hr rfl)
  have HR := Lib.hid hr
  have hz : ¬ (most : Int) < (u : Int) := by omega
  have hz2 : ¬ most < u := by omega
  have hz3 : decide (most < u) = false := decide_eq_false hz2
  have hz4 : decide ((most : Int) < (u : Int)) = false := decide_eq_false hz
  have hwr : IntKind.i64.wrap (u : Int) = (u : Int) := by rw [IntKind.wrap_i64]; omega
  clear h hr
  go_enter Tryz.func115, Tryz.ntmps115
  go_wp2_with fail
  refine Quiet.region (by kernel_rfl) (by kernel_rfl) ?_
  repeat (go_big_quiet_step (first | (go_at_call 77; (with_reducible exact Quiet.calls (HG.out _)))))
  refine wpQuiet_nil ?_
  rintro _ ⟨pq, rfl⟩
  have hq := pq.below
  generalize pq.world = wq at hq ⊢
  have hr2 := HR.out.below hq
  have c1 := cell_at (i := 1) hr2 rfl
  have f1 := frozen_at (i := 1) hr2
  have HR2 := Lib.hid (hr2.set (n : Int))
  clear hr2 q0 q1
  go_wp2
  go_ret
  exact ⟨rfl, HR2.out, (But.of_below hq).set 1 _⟩
set_option maxHeartbeats 1000000 in
set_option maxRecDepth 100000 in
theorem number_none (R : Nat) (s : ByteArray) (hs : s.size ≤ 9223372036854775807) (p : Int) (most : Nat) (h : Wire.getV s.data.toList p = none) (w : World) (hr : Rd R s p w) (hE : Err w) :
    Calls Tryz.prog 115 #[.pointer (some ⟨R, 0, none⟩), .int .u64 (most : Int)] w fun e w' => Falls e ∧ Below w.heap.size w w' := by
  have HG : Hid (∀ W, Calls Tryz.prog 77 #[.string s, .int .i64 p] W fun e w' => e = .returned (.tuple #[.int .u64 0, .int .i64 0, .bool false]) ∧ Below W.heap.size W w') := Lib.hid fun W => Wire.get_no s hs p h W
  have hR := lt_of hr
  have q0 := Quiet.cell (a := ⟨R, 0, none⟩) hR (cell_at (i := 0) hr rfl)
  have q1 := Quiet.cell (a := ⟨R, 1, none⟩) hR (cell_at (i := 1) hr rfl)
  have HE : Hid (∀ W, Below w.heap.size w W → Err W) := Lib.hid fun W h => hE.below h
  clear h hr hE
  go_enter Tryz.func115, Tryz.ntmps115
  go_wp2_with fail
  refine Quiet.region (by kernel_rfl) (by kernel_rfl) ?_
  repeat (go_big_quiet_step (first | (go_at_call 77; (with_reducible exact Quiet.calls (HG.out _)))))
  refine wpQuiet_nil ?_
  rintro _ ⟨pq, rfl⟩
  have hq := pq.below
  generalize pq.world = wq at hq ⊢
  obtain ⟨T, pe, hc⟩ := HE.out _ hq
  clear q0 q1
  go_wp2
  exact ⟨rfl, ⟨T, pe, rfl⟩, hq⟩
set_option maxHeartbeats 1000000 in
set_option maxRecDepth 100000 in
theorem number_great (R : Nat) (s : ByteArray) (hs : s.size ≤ 9223372036854775807) (p : Int) (most u n : Nat) (h : Wire.getV s.data.toList p = some (u, n)) (hu : most < u) (w : World) (hr : Rd R s p w) (hE : Err w) :
    Calls Tryz.prog 115 #[.pointer (some ⟨R, 0, none⟩), .int .u64 (most : Int)] w fun e w' => Falls e ∧ Below w.heap.size w w' := by
  have HG : Hid (∀ W, Calls Tryz.prog 77 #[.string s, .int .i64 p] W fun e w' => e = .returned (.tuple #[.int .u64 (u : Int), .int .i64 (n : Int), .bool true]) ∧ Below W.heap.size W w') := Lib.hid fun W => Wire.get_yes s hs p u n h W
  have hR := lt_of hr
  have q0 := Quiet.cell (a := ⟨R, 0, none⟩) hR (cell_at (i := 0) hr rfl)
  have q1 := Quiet.cell (a := ⟨R, 1, none⟩) hR (cell_at (i := 1) hr rfl)
  have hz : (most : Int) < (u : Int) := by omega
  have hz3 : decide (most < u) = true := decide_eq_true hu
  have hz4 : decide ((most : Int) < (u : Int)) = true := decide_eq_true hz
  have HE : Hid (∀ W, Below w.heap.size w W → Err W) := Lib.hid fun W h => hE.below h
  clear h hr hE
  go_enter Tryz.func115, Tryz.ntmps115
  go_wp2_with fail
  refine Quiet.region (by kernel_rfl) (by kernel_rfl) ?_
  repeat (go_big_quiet_step (first | (go_at_call 77; (with_reducible exact Quiet.calls (HG.out _)))))
  refine wpQuiet_nil ?_
  rintro _ ⟨pq, rfl⟩
  have hq := pq.below
  generalize pq.world = wq at hq ⊢
  obtain ⟨T, pe, hc⟩ := HE.out _ hq
  clear q0 q1
  go_wp2
  exact ⟨rfl, ⟨T, pe, rfl⟩, hq⟩
end Go.Proofs.YtbilkeadhflibaaGreatDoor.Sel

/- What sel.reader's text takes; of memory the reader's place alone turns. -/
namespace Go.Proofs.YtbilkeadhflibaaGreatDoor.Sel
open Go.RowKit Go.Proofs.YtbilkeadhflibaaGreatDoor.Texts Go.Proofs.YtbilkeadhflibaaGreatDoor.Word Go.Proofs.YtbilkeadhflibaaGreatDoor.Forms Go.Proofs.YtbilkeadhflibaaGreatDoor.Split Go.Proofs.YtbilkeadhflibaaGreatDoor.Boxes

set_option maxHeartbeats 1000000 in
set_option maxRecDepth 100000 in
theorem take_yes (R : Nat) (s : ByteArray) (hs : s.size ≤ 9223372036854775807) (p : Int) (t : ByteArray) (q : Int) (h : oneText s p = some (t, q)) (w : World) (hr : Rd R s p w) :
    Calls Tryz.prog 134 #[.pointer (some ⟨R, 0, none⟩)] w (Took R s (.string t) q w) := by
  have HG : Hid (∀ W, Calls Tryz.prog 73 #[.string s, .int .i64 p, .int .i64 32] W fun e w' => e = .returned (.tuple #[.string t, .int .i64 q, .bool true]) ∧ Below W.heap.size W w') := Lib.hid fun W => by
    unfold oneText at h
    split at h
    · simp at h
    rename_i a ha
    simp only [Option.some.injEq, Prod.mk.injEq] at h
    rw [← h.1, ← h.2]
    exact Wire.text_yes s hs p 32 (by omega) a.1 a.2 ha W
  have hR := lt_of hr
  have q0 := Quiet.cell (a := ⟨R, 0, none⟩) hR (cell_at (i := 0) hr rfl)
  have q1 := Quiet.cell (a := ⟨R, 1, none⟩) hR (cell_at (i := 1) hr rfl)
  have HR := Lib.hid hr
  clear h hr
  go_enter Tryz.func134, Tryz.ntmps134
  go_wp2_with fail
  refine Quiet.region (by kernel_rfl) (by kernel_rfl) ?_
  repeat (go_big_quiet_step (first | (go_at_call 73; (with_reducible exact Quiet.calls (HG.out _)))))
  refine wpQuiet_nil ?_
  rintro _ ⟨pq, rfl⟩
  have hq := pq.below
  generalize pq.world = wq at hq ⊢
  have hr2 := HR.out.below hq
  have c1 := cell_at (i := 1) hr2 rfl
  have f1 := frozen_at (i := 1) hr2
  have HR2 := Lib.hid (hr2.set q)
  clear hr2 q0 q1
  go_wp2
  go_ret
  exact ⟨rfl, HR2.out, (But.of_below hq).set 1 _⟩
set_option maxHeartbeats 1000000 in
set_option maxRecDepth 100000 in
theorem take_no (R : Nat) (s : ByteArray) (hs : s.size ≤ 9223372036854775807) (p : Int) (h : oneText s p = none) (w : World) (hr : Rd R s p w) (hE : Err w) :
    Calls Tryz.prog 134 #[.pointer (some ⟨R, 0, none⟩)] w fun e w' => Falls e ∧ Below w.heap.size w w' := by
  have HG : Hid (∀ W, Calls Tryz.prog 73 #[.string s, .int .i64 p, .int .i64 32] W fun e w' => e = .returned (.tuple #[.string ⟨#[]⟩, .int .i64 0, .bool false]) ∧ Below W.heap.size W w') := Lib.hid fun W => by
    unfold oneText at h
    split at h
    · rename_i ha
      exact Wire.text_no s hs p 32 (by omega) ha W
    · simp at h
  have hR := lt_of hr
  have q0 := Quiet.cell (a := ⟨R, 0, none⟩) hR (cell_at (i := 0) hr rfl)
  have q1 := Quiet.cell (a := ⟨R, 1, none⟩) hR (cell_at (i := 1) hr rfl)
  have HE : Hid (∀ W, Below w.heap.size w W → Err W) := Lib.hid fun W h => hE.below h
  clear h hr hE
  go_enter Tryz.func134, Tryz.ntmps134
  go_wp2_with fail
  refine Quiet.region (by kernel_rfl) (by kernel_rfl) ?_
  repeat (go_big_quiet_step (first | (go_at_call 73; (with_reducible exact Quiet.calls (HG.out _)))))
  refine wpQuiet_nil ?_
  rintro _ ⟨pq, rfl⟩
  have hq := pq.below
  generalize pq.world = wq at hq ⊢
  obtain ⟨T, pe, hc⟩ := HE.out _ hq
  clear q0 q1
  go_wp2
  exact ⟨rfl, ⟨T, pe, rfl⟩, hq⟩

/-- The right term that stands at a place. -/
def oneR (s : ByteArray) (p : Int) : Option (Tm × Int) := match oneT s p with
  | none => none
  | some x => if rightT x.1 = true then some x else none
/-- What is told of a term that was taken, or of none. -/
def TookT (R : Nat) (s : ByteArray) (r : Option (Tm × Int)) (w : World) (e : Ending) (w' : World) : Prop := match r with
  | none => Falls e ∧ But R w w'
  | some x => (∃ v, e = .returned v ∧ TNew w.heap.size w' v x.1) ∧ Rd R s x.2 w' ∧ But R w w'

theorem Err.but {R : Nat} {w w' : World} (h : Err w) (hb : But R w w') (hR : 0 ≠ R) : Err w' := by
  obtain ⟨T, p, h⟩ := h
  have hl := World.block_lt_of_cell? w ⟨0, 0, none⟩ h
  exact ⟨T, p, (hb.cell (a := ⟨0, 0, none⟩) hl (by exact hR)).trans h⟩

set_option maxHeartbeats 1000000 in
set_option maxRecDepth 100000 in
theorem term_a (R : Nat) (s : ByteArray) (hs : s.size ≤ 9223372036854775807) (p : Int) (h : oneText s p = none) (w : World) (hr : Rd R s p w) (hE : Err w) :
    Calls Tryz.prog 116 #[.pointer (some ⟨R, 0, none⟩)] w fun e w' => Falls e ∧ But R w w' := by
  have HT : Hid (∀ W, Below w.heap.size w W → Calls Tryz.prog 134 #[.pointer (some ⟨R, 0, none⟩)] W fun e w' => Falls e ∧ Below W.heap.size W w') := Lib.hid fun W hb => take_no R s hs p h W (hr.below hb) (hE.below hb)
  clear h hr hE
  go_enter Tryz.func116, Tryz.ntmps116
  go_wp2_with fail
  with_reducible refine (HT.out _ (grew w _)).mono ?_
  rintro e w1 ⟨⟨T, p3, rfl⟩, hb1⟩
  go_wp2
  exact ⟨rfl, ⟨T, p3, rfl⟩, But.of_below (grows (grew w _) hb1)⟩
set_option maxHeartbeats 1000000 in
set_option maxRecDepth 100000 in
theorem term_b (R : Nat) (s : ByteArray) (hs : s.size ≤ 9223372036854775807) (p : Int) (k : ByteArray) (q1 : Int) (h : oneText s p = some (k, q1)) (w : World) (hr : Rd R s p w) (hE : Err w) (hgR : 0 ≠ R)
    (HN : Hid (∀ W, Rd R s q1 W → Err W → Calls Tryz.prog 115 #[.pointer (some ⟨R, 0, none⟩), .int .u64 9] W fun e w' => Falls e ∧ Below W.heap.size W w')) :
    Calls Tryz.prog 116 #[.pointer (some ⟨R, 0, none⟩)] w fun e w' => Falls e ∧ But R w w' := by
  have HT : Hid (∀ W, Below w.heap.size w W → Calls Tryz.prog 134 #[.pointer (some ⟨R, 0, none⟩)] W (Took R s (.string k) q1 W)) := Lib.hid fun W hb => take_yes R s hs p k q1 h W (hr.below hb)
  have HE : Hid (∀ W, But R w W → Err W) := Lib.hid fun W h => hE.but h hgR
  clear h hr hE
  go_enter Tryz.func116, Tryz.ntmps116
  go_wp2_with fail
  with_reducible refine (HT.out _ (grew w _)).mono ?_
  rintro e w1 ⟨rfl, hr1, hb1⟩
  have HR1 := Lib.hid hr1
  have hb2 : But R w (w1.alloc (.cells #[.string k, .bool false, .slice none 0 0] 102)) := ((But.of_below (grew w _)).trans hb1).trans (But.of_below (old w1 _))
  clear hr1 hb1
  go_wp2_with fail
  with_reducible refine (HN.out _ (HR1.out.below (old w1 _)) (HE.out _ hb2)).mono ?_
  rintro e w3 ⟨⟨T, p3, rfl⟩, hb3⟩
  go_wp2
  exact ⟨rfl, ⟨T, p3, rfl⟩, hb2.trans (But.of_below hb3)⟩
end Go.Proofs.YtbilkeadhflibaaGreatDoor.Sel

/- What sel.reader's term takes: the right term that stands there, or it leaves by a panic; of memory the reader's place alone turns. -/
namespace Go.Proofs.YtbilkeadhflibaaGreatDoor.Sel
open Go.RowKit Go.Proofs.YtbilkeadhflibaaGreatDoor.Texts Go.Proofs.YtbilkeadhflibaaGreatDoor.Word Go.Proofs.YtbilkeadhflibaaGreatDoor.Forms Go.Proofs.YtbilkeadhflibaaGreatDoor.Split Go.Proofs.YtbilkeadhflibaaGreatDoor.Boxes

/-- What the values tell of a term whose key and number are read. -/
def valued (k : ByteArray) (b : Bool) (r : Option (List ByteArray × Int)) : Option (Tm × Int) := match r with
  | none => none
  | some vs => if rightT (k, b, vs.1) = true then some ((k, b, vs.1), vs.2) else none
set_option maxHeartbeats 4000000 in
set_option maxRecDepth 100000 in
theorem term_c (R : Nat) (s : ByteArray) (hs : s.size ≤ 9223372036854775807) (p : Int) (k : ByteArray) (q1 : Int) (n m : Nat) (b : Bool) (q2 : Int) (hn : n ≤ 9) (hb0 : b = decide (n % 2 = 1)) (hm0 : m = n / 2) (h : oneText s p = some (k, q1)) (w : World) (hr : Rd R s p w) (hE : Err w) (hgR : 0 ≠ R)
    (HN : Hid (∀ W, Rd R s q1 W → Calls Tryz.prog 115 #[.pointer (some ⟨R, 0, none⟩), .int .u64 9] W (Took R s (.int .i64 (n : Int)) q2 W))) :
    Calls Tryz.prog 116 #[.pointer (some ⟨R, 0, none⟩)] w (TookT R s (valued k b (readN (oneText s) m q2)) w) := by
  obtain ⟨i0, hi, hz0, hz1, hz2⟩ := info_parts infoS
  have HT : Hid (∀ W, Below w.heap.size w W → Calls Tryz.prog 134 #[.pointer (some ⟨R, 0, none⟩)] W (Took R s (.string k) q1 W)) := Lib.hid fun W hb => take_yes R s hs p k q1 h W (hr.below hb)
  have HE : Hid (∀ W, But R w W → Err W) := Lib.hid fun W h => hE.but h hgR
  have hRw := lt_of hr
  have hrem : ((n : Int) % 2 == 1) = b := by rw [hb0, Bool.eq_iff_iff, beq_iff_eq, decide_eq_true_eq]; omega
  have hquo : (n : Int) / 2 = (m : Int) := by omega
  have hm4 : m ≤ 4 := by omega
  clear h hr hE hb0 hm0
  go_enter Tryz.func116, Tryz.ntmps116
  go_wp2_with fail
  with_reducible refine (HT.out _ (grew w _)).mono ?_
  rintro e w1 ⟨rfl, hr1, hb1⟩
  have HR1 := Lib.hid hr1
  have hsz1 := hb1.size
  rw [size_alloc] at hsz1
  have hA1 := hb1.keep (fresh w _) (by omega)
  clear hr1
  go_wp2_with fail
  with_reducible refine (HN.out _ (HR1.out.below (old w1 _))).mono ?_
  rintro e w3 ⟨rfl, hr3, hb3⟩
  have hT3 := hb3.keep (fresh w1 _) (by omega)
  have hA3 := hb3.keep (keep hA1 (old w1 _)) (by omega)
  have hsz3 := hb3.size
  rw [size_alloc] at hsz3
  have c1 := cell_at (i := 1) hT3 rfl
  have f1 := frozen_at (i := 1) hT3
  have HB3 : Hid (But R w (w3.setCell ⟨w1.heap.size, 1, none⟩ (.bool b))) := Lib.hid (((((But.of_below (grew w _)).trans hb1).trans (But.of_below (old w1 _))).trans hb3).more ((Below.refl _ _).setCell (by show w.heap.size ≤ w1.heap.size; omega) _))
  have HT4 : Hid ((w3.setCell ⟨w1.heap.size, 1, none⟩ (.bool b)).heap[w1.heap.size]? = some (.cells #[.string k, .bool b, .slice none 0 0] 102)) := Lib.hid (heap_setCell_same _ _ 1 _ _ (.bool b) hT3)
  have HA4 := Lib.hid ((heap_setCell_other w3 ⟨w1.heap.size, 1, none⟩ w.heap.size (.bool b) (by simp; omega)).trans hA3)
  have HR4 : Hid (Rd R s q2 (w3.setCell ⟨w1.heap.size, 1, none⟩ (.bool b))) := Lib.hid ((heap_setCell_other w3 ⟨w1.heap.size, 1, none⟩ R (.bool b) (by simp; omega)).trans hr3)
  have hS4 : w1.heap.size + 1 ≤ (w3.setCell ⟨w1.heap.size, 1, none⟩ (.bool b)).heap.size := by simpa using hsz3
  obtain ⟨T, hTe⟩ : ∃ T, T = w1.heap.size := ⟨_, rfl⟩
  have hHT : w.heap.size < T := by omega
  clear hr3 hb3 hT3 hA3 hA1 hb1
  go_wp2_with fail
  go_loopw [16] (fun i wr => ∃ (j : Nat) (done : List ByteArray) (q : Int) (v : Value), j ≤ m ∧ i = .int .i64 j ∧ done.length = j ∧ Forms.ahead done (readN (oneText s) (m - j) q) = readN (oneText s) m q2 ∧ Rd R s q wr ∧ wr.heap[w1.heap.size]? = some (.cells #[.string k, .bool b, v] 102) ∧
    wr.heap[w.heap.size]? = some (.cells #[.string ⟨#[]⟩, .bool false, .slice none 0 0] 102) ∧ wr.ownsRow (w1.heap.size + 1) 9 1 v j (svals done) ∧ But R w wr ∧ w1.heap.size + 1 ≤ wr.heap.size) (fun i _ => m - (intOf i).toNat)
  case atStart => exact ⟨0, [], q2, _, Nat.zero_le _, rfl, rfl, ahead_nil _, HR4.out, HT4.out, HA4.out, World.ownsRow_nil _ _ _ _, HB3.out, hS4⟩
  case round =>
    obtain ⟨j, done, q, v, hj, rfl, hdl, hrd, hr, ht, ha, hown, hb, hBr⟩ := hrel
    have HD := Lib.hid hdl
    have HRD := Lib.hid hrd
    have HR := Lib.hid hr
    have HTT := Lib.hid ht
    have HA := Lib.hid ha
    have HOw := Lib.hid hown
    have hvf : ∃ va vn vc, v = .slice va vn vc := by
      rcases hown.2 with ⟨h, _⟩ | ⟨g, cap, cur, h, _⟩
      · exact ⟨_, _, _, h⟩
      · exact ⟨_, _, _, h⟩
    obtain ⟨va, vn, vc, rfl⟩ := hvf
    obtain ⟨c0, c1, c2, f0, f1, f2⟩ := cells3 ht
    have hltT := lt_of ht
    by_cases hlt : j < m
    · have hltz : (j : Int) < (m : Int) := by omega
      cases hone : oneText s q with
      | some x =>
        obtain ⟨x, q'⟩ := x
        have HX : Hid (∀ W, Below wr.heap.size wr W → Calls Tryz.prog 134 #[.pointer (some ⟨R, 0, none⟩)] W (Took R s (.string x) q' W)) := Lib.hid fun W h => take_yes R s hs q x q' hone W (HR.out.below h)
        have HRD2 : Hid (Forms.ahead (done ++ [x]) (readN (oneText s) (m - (j + 1)) q') = readN (oneText s) m q2) := Lib.hid (by rw [← HRD.out, show m - j = (m - (j + 1)) + 1 by omega, readN_go hone])
        have HMax : Hid (j + 1 ≤ maxLen ∧ (j + 1) * 16 ≤ 140737488355328) := Lib.hid (by unfold maxLen; omega)
        have HKeep : Hid (∀ W, But R wr W → W.cell? ⟨w1.heap.size, 2, none⟩ = some (.slice va vn vc) ∧ W.frozen? ⟨w1.heap.size, 2, none⟩ = false) := Lib.hid fun W h => ⟨cell_at (i := 2) (h.keep ht (by omega)) rfl, frozen_at (i := 2) (h.keep ht (by omega))⟩
        have HKeep4 : Hid (∀ W W' o, But R wr W → (W.alloc o).grownBy W' (Value.slice va vn vc).ownBlock → W'.cell? ⟨w1.heap.size, 2, none⟩ = some (.slice va vn vc) ∧ W'.frozen? ⟨w1.heap.size, 2, none⟩ = false) := Lib.hid fun W W' o h hg => by
          have h3 := keep (h.keep ht (by omega)) (old W o)
          have h4 : W'.heap[w1.heap.size]? = some (.cells #[.string k, .bool b, .slice va vn vc] 102) := (hg.block _ (lt_of h3) (fun e => by have := HOw.out.lt _ e.symm; omega)).trans h3
          exact ⟨cell_at (i := 2) h4 rfl, frozen_at (i := 2) h4⟩
        clear hdl hrd hr ht ha hown hone
        go_wp2_with fail
        go_region_law (first
          | (refine step_append_lies _ rfl _ _ 28 rfl (w1.heap.size + 1) 9 i0 (.string ByteArray.empty) 1 16 Tryz.underlying28 hi hz0 hz1 hz2 rfl (by decide) (.slice va vn vc) j (svals done) rfl (own_below (But.own HOw.out hb3.out (by omega)) (old w4 _)) ⟨w4.heap.size, 0, none⟩ 1 1 [.string x] rfl rfl (cell_one_new w4 _ _) (fun u hu => by simp at hu; subst hu; rfl) (by decide) HMax.out.1 HMax.out.2 (by rw [size_alloc]; have := hb3.out.size; omega) (w4.heap.size + 1) (size_alloc _ _) ?_; intro g5 cap5 w5 hown5 hgrow5 _ _; have HOwn5 := Lib.hid hown5; have HGrow5 := Lib.hid hgrow5; obtain ⟨e5, f5⟩ := HKeep4.out w4 w5 _ hb3.out hgrow5; clear hown5 hgrow5)
          | (go_simp; go_at_call 134; (with_reducible refine (HX.out _ ((Below.refl _ wr).drew)).mono ?_); rintro e w4 ⟨rfl, hr4, hb30⟩; have hb3 : Hid (But R wr w4) := Lib.hid ((But.of_below ((Below.refl _ wr).drew)).trans hb30); have HR4' := Lib.hid hr4; obtain ⟨e3, f3⟩ := HKeep.out w4 hb3.out; obtain ⟨e3a, f3a⟩ := HKeep.out (w4.alloc (.cells #[.string x] 9)) (hb3.out.trans (But.of_below (old _ _))); clear hb30 hr4))
        all_goals
          go_wp2
          go_roundw
          case rel =>
            have hvo : ∀ g, (Value.slice va vn vc).ownBlock = some g → w1.heap.size + 1 ≤ g := fun g hg => (HOw.out.lt g hg).1
            have hR5 := after HR4'.out HGrow5.out (fun e => by have := hvo _ e; omega)
            have hT5 := after (hb3.out.keep HTT.out (by omega)) HGrow5.out (fun e => by have := hvo _ e; omega)
            have hA5 := after (hb3.out.keep HA.out (by omega)) HGrow5.out (fun e => by have := hvo _ e; omega)
            have h4s := hb3.out.size
            have h5s := HGrow5.out.size
            rw [size_alloc] at h5s
            refine ⟨j + 1, done ++ [x], q', _, by omega, by go_num, by rw [List.length_append, HD.out]; rfl, HRD2.out, (heap_setCell_other _ _ _ _ (by simp; omega)).trans hR5, heap_setCell_same _ _ 2 _ _ _ hT5, (heap_setCell_other _ _ _ _ (by simp; omega)).trans hA5, ?_, ?_, ?_⟩
            · rw [svals_snoc]
              exact ownsRow_setCell_below HOwn5.out (by simp) _
            · have h6 := hb.trans hb3.out
              exact h6.more ((((Below.refl _ _).alloc h6.size _).grown HGrow5.out (by rw [size_alloc]; have := h6.size; omega) (fun g hg => by have := hvo g hg; omega)).setCell (by simp; omega) _)
            · simp; omega
          case measure => simp [intOf]; omega
      | none =>
        have HX : Hid (∀ W, Below wr.heap.size wr W → Calls Tryz.prog 134 #[.pointer (some ⟨R, 0, none⟩)] W fun e w' => Falls e ∧ Below W.heap.size W w') := Lib.hid fun W h => take_no R s hs q hone W (HR.out.below h) (HE.out W (hb.trans (But.of_below h)))
        have HNo : Hid (readN (oneText s) m q2 = none) := Lib.hid (by rw [← HRD.out, show m - j = (m - (j + 1)) + 1 by omega, readN_stop hone])
        clear hdl hrd hr ht ha hown hone
        go_wp2_with fail
        go_region_dies
        all_goals
          with_reducible refine (HX.out _ ((Below.refl _ wr).drew)).mono ?_
          rintro e w4 ⟨⟨T3, p3, rfl⟩, hb30⟩
          go_wp2
          rw [HNo.out]
          exact ⟨rfl, ⟨T3, p3, rfl⟩, hb.trans (But.of_below (grows ((Below.refl _ wr).drew) hb30))⟩
    · have hltz : ¬ ((j : Int) < (m : Int)) := by omega
      have hjm : j = m := by omega
      have hsr : SRow wr (.slice va vn vc) done := own_srow (T := 9) (by rw [hdl]; exact hown)
      have hsn : SNew (w1.heap.size + 1) wr (.slice va vn vc) done := ⟨hsr, fun g o n c e hn => by
        cases va with
        | none => cases e
        | some a =>
          injection e with e1 _ _
          injection e1 with e1
          subst e1
          exact (HOw.out.lt g rfl).1⟩
      have hvn : vn = done.length := by
        obtain ⟨a, cap, e, _⟩ := hsr.slice
        injection e
      subst hvn
      have HFin : Hid (readN (oneText s) m q2 = some (done, q)) := Lib.hid (by
        rw [← HRD.out, hjm, Nat.sub_self]
        simp [readN, Forms.ahead])
      have HSN := Lib.hid hsn
      cases hrt : rightT (k, b, done) with
      | true =>
        have HS : Hid (Calls Tryz.prog 135 #[.agg #[.string k, .bool b, .slice va done.length vc]] wr fun e w' => e = .returned (.agg #[.string k, .bool b, .slice va done.length vc]) ∧ Below wr.heap.size wr w') := Lib.hid (sure_yes k b va vc done wr hsr (by omega) hrt)
        have HV : Hid (valued k b (readN (oneText s) m q2) = some ((k, b, done), q)) := Lib.hid (by rw [HFin.out]; simp [valued, hrt])
        clear hdl hrd hr ht ha hown hsr hsn hrt
        go_wp2_with fail
        with_reducible refine HS.out.mono ?_
        rintro e w4 ⟨rfl, hb4⟩
        have hA4 := keep HA.out hb4
        obtain ⟨d0, d1, d2, g0, g1, g2⟩ := cells3 hA4
        obtain ⟨e0, e1, e2, _⟩ := cells3 (set3_box hA4 (.string k) (.bool b) (.slice va done.length vc))
        have HZ : Hid (But w.heap.size w4 (set3 w.heap.size (.string k) (.bool b) (.slice va done.length vc) w4)) := Lib.hid ((((But.refl _ _).set 0 _).set 1 _).set 2 _)
        have HZ2 : Hid (But R w (set3 w.heap.size (.string k) (.bool b) (.slice va done.length vc) w4)) := Lib.hid ((hb.trans (But.of_below hb4)).more (set3_below (Below.refl _ _) (Nat.le_refl _)))
        unfold set3 at e0 e1 e2 HZ HZ2
        clear hA4
        go_wp2
        refine bodyPost_ret (v := .agg #[.string k, .bool b, .slice va done.length vc]) (by simp [results, Tryz.results116, go_sem, e0, e1, e2]) rfl ?_
        rw [HV.out]
        exact ⟨⟨_, rfl, _, rfl, ((HSN.out.below hb4).but HZ.out (by omega)).mono (by omega)⟩, HZ.out.keep (HR.out.below hb4) (by omega), HZ2.out⟩
      | false =>
        have HS : Hid (Calls Tryz.prog 135 #[.agg #[.string k, .bool b, .slice va done.length vc]] wr fun e w' => Falls e ∧ Below wr.heap.size wr w') := Lib.hid (sure_no k b va vc done wr hsr (by omega) hrt (HE.out wr hb))
        have HV : Hid (valued k b (readN (oneText s) m q2) = none) := Lib.hid (by rw [HFin.out]; simp [valued, hrt])
        clear hdl hrd hr ht ha hown hsr hsn hrt
        go_wp2_with fail
        with_reducible refine HS.out.mono ?_
        rintro e w4 ⟨⟨T3, p3, rfl⟩, hb4⟩
        go_wp2
        rw [HV.out]
        exact ⟨rfl, ⟨T3, p3, rfl⟩, hb.trans (But.of_below hb4)⟩

theorem oneR_none {s : ByteArray} {p : Int} (h : oneText s p = none) : oneR s p = none := by unfold oneR oneT; rw [h]
theorem oneR_bare {s : ByteArray} {p : Int} {k : ByteArray × Int} (h : oneText s p = some k) (h2 : Wire.getV s.data.toList k.2 = none) : oneR s p = none := by unfold oneR oneT; rw [h]; simp only; rw [h2]
theorem oneR_great {s : ByteArray} {p : Int} {k : ByteArray × Int} {n : Nat × Nat} (h : oneText s p = some k) (h2 : Wire.getV s.data.toList k.2 = some n) (h9 : 9 < n.1) : oneR s p = none := by unfold oneR oneT; rw [h]; simp only; rw [h2]; simp only; rw [if_pos h9]
theorem oneR_full {s : ByteArray} {p : Int} {k : ByteArray × Int} {n : Nat × Nat} (h : oneText s p = some k) (h2 : Wire.getV s.data.toList k.2 = some n) (h9 : ¬ 9 < n.1) : oneR s p = valued k.1 (decide (n.1 % 2 = 1)) (readN (oneText s) (n.1 / 2) (n.2 : Int)) := by
  unfold oneR oneT
  rw [h]
  simp only
  rw [h2]
  simp only
  rw [if_neg h9]
  cases readN (oneText s) (n.1 / 2) (n.2 : Int) with
  | none => rfl
  | some vs => rfl
/-- What is taken as a term, in one form. -/
theorem term_any (R : Nat) (s : ByteArray) (hs : s.size ≤ 9223372036854775807) (p : Int) (w : World) (hr : Rd R s p w) (hE : Err w) (hgR : 0 ≠ R) :
    Calls Tryz.prog 116 #[.pointer (some ⟨R, 0, none⟩)] w (TookT R s (oneR s p) w) := by
  cases h : oneText s p with
  | none => rw [oneR_none h]; exact term_a R s hs p h w hr hE
  | some k =>
    cases h2 : Wire.getV s.data.toList k.2 with
    | none => rw [oneR_bare h h2]; exact term_b R s hs p k.1 k.2 h w hr hE hgR (Lib.hid fun W hr hE => number_none R s hs k.2 9 h2 W hr hE)
    | some n =>
      by_cases h9 : 9 < n.1
      · rw [oneR_great h h2 h9]; exact term_b R s hs p k.1 k.2 h w hr hE hgR (Lib.hid fun W hr hE => number_great R s hs k.2 9 n.1 n.2 h2 h9 W hr hE)
      · rw [oneR_full h h2 h9]; exact term_c R s hs p k.1 k.2 n.1 _ _ n.2 (by omega) rfl rfl h w hr hE hgR (Lib.hid fun W hr => number_yes R s hs k.2 9 n.1 n.2 h2 (by omega) (by omega) W hr)
end Go.Proofs.YtbilkeadhflibaaGreatDoor.Sel

/- What sel.Get answers of every text and place; of memory that was there nothing turns. -/
namespace Go.Proofs.YtbilkeadhflibaaGreatDoor.Sel
open Go.RowKit Go.Proofs.YtbilkeadhflibaaGreatDoor.Texts Go.Proofs.YtbilkeadhflibaaGreatDoor.Word Go.Proofs.YtbilkeadhflibaaGreatDoor.Forms Go.Proofs.YtbilkeadhflibaaGreatDoor.Split Go.Proofs.YtbilkeadhflibaaGreatDoor.Boxes

/-- What is told of a selector that was got, or of none. -/
def TellsG (r : Option (List Tm × Int)) (w : World) (e : Ending) (w' : World) : Prop := (match r with
  | none => e = .returned (.tuple #[.slice none 0 0, .int .i64 0, .bool false])
  | some x => ∃ v, e = .returned (.tuple #[v, .int .i64 x.2, .bool true]) ∧ TRow w' v x.1) ∧ Below w.heap.size w w'
def allR : Option (List Tm × Int) → Option (List Tm × Int)
  | none => none
  | some x => if x.1.all rightT = true then some x else none
theorem oneR_at {s : ByteArray} {p : Int} {x : Tm × Int} (h : oneT s p = some x) : oneR s p = if rightT x.1 = true then some x else none := by unfold oneR; rw [h]
theorem oneR_no {s : ByteArray} {p : Int} (h : oneT s p = none) : oneR s p = none := by unfold oneR; rw [h]
theorem readN_all (s : ByteArray) : ∀ (k : Nat) (p : Int), readN (oneR s) k p = allR (readN (oneT s) k p)
  | 0, p => rfl
  | k + 1, p => by
    rw [readN, readN]
    cases h : oneT s p with
    | none => rw [oneR_no h]; rfl
    | some x =>
      rw [oneR_at h]
      have ih := readN_all s k x.2
      by_cases hx : rightT x.1 = true
      · rw [if_pos hx]
        simp only
        rw [ih]
        cases readN (oneT s) k x.2 with
        | none => rfl
        | some y =>
          by_cases hy : y.1.all rightT = true
          · simp [allR, hx, hy]
          · simp [allR, hx, hy]
      · rw [if_neg hx]
        simp only
        cases readN (oneT s) k x.2 with
        | none => rfl
        | some y => simp [allR, hx]
theorem keep_all {s : ByteArray} {k : Nat} (hk : k ≤ 4) (p : Int) : keepS (readN (oneT s) k p) = readN (oneR s) k p := by
  rw [readN_all]
  cases h : readN (oneT s) k p with
  | none => rfl
  | some x =>
    have := readN_len h
    have e : rightS x.1 = x.1.all rightT := by unfold rightS; rw [decide_eq_true (show x.1.length ≤ 4 by omega), Bool.true_and]
    show (if rightS x.1 = true then some x else none) = if x.1.all rightT = true then some x else none
    rw [e]

/-- The three answers' variables behind a panic. -/
theorem fallen3 {H : Nat} {w0 w : World} {x y z : Value} (hb : Below H w0 w) (h0 : w.heap[H]? = some (.cells #[x] 25)) (h1 : w.heap[H + 1]? = some (.cells #[y] 3)) (h2 : w.heap[H + 2]? = some (.cells #[z] 4)) (v : Value) (i : Int) (b : Bool) :
    (((w.setCell ⟨H, 0, none⟩ v).setCell ⟨H + 1, 0, none⟩ (.int .i64 i)).setCell ⟨H + 2, 0, none⟩ (.bool b)).cell? ⟨H, 0, none⟩ = some v ∧ (((w.setCell ⟨H, 0, none⟩ v).setCell ⟨H + 1, 0, none⟩ (.int .i64 i)).setCell ⟨H + 2, 0, none⟩ (.bool b)).cell? ⟨H + 1, 0, none⟩ = some (.int .i64 i) ∧
    (((w.setCell ⟨H, 0, none⟩ v).setCell ⟨H + 1, 0, none⟩ (.int .i64 i)).setCell ⟨H + 2, 0, none⟩ (.bool b)).cell? ⟨H + 2, 0, none⟩ = some (.bool b) ∧
    Below H w0 (((w.setCell ⟨H, 0, none⟩ v).setCell ⟨H + 1, 0, none⟩ (.int .i64 i)).setCell ⟨H + 2, 0, none⟩ (.bool b)) := by
  have a0 := heap_setCell_same w H 0 _ _ v h0
  have a1 := (heap_setCell_other w ⟨H, 0, none⟩ (H + 1) v (by simp)).trans h1
  have a2 := (heap_setCell_other w ⟨H, 0, none⟩ (H + 2) v (by simp)).trans h2
  have b0 := (heap_setCell_other (w.setCell ⟨H, 0, none⟩ v) ⟨H + 1, 0, none⟩ H (.int .i64 i) (by simp)).trans a0
  have b1 := heap_setCell_same _ (H + 1) 0 _ _ (.int .i64 i) a1
  have b2 := (heap_setCell_other (w.setCell ⟨H, 0, none⟩ v) ⟨H + 1, 0, none⟩ (H + 2) (.int .i64 i) (by simp)).trans a2
  have c0 := (heap_setCell_other _ ⟨H + 2, 0, none⟩ H (.bool b) (by simp)).trans b0
  have c1 := (heap_setCell_other _ ⟨H + 2, 0, none⟩ (H + 1) (.bool b) (by simp)).trans b1
  have c2 := heap_setCell_same _ (H + 2) 0 _ _ (.bool b) b2
  exact ⟨cell_at (i := 0) c0 rfl, cell_at (i := 0) c1 rfl, cell_at (i := 0) c2 rfl, ((hb.setCell (Nat.le_refl _) _).setCell (by simp) _).setCell (by simp) _⟩

set_option maxHeartbeats 1000000 in
set_option maxRecDepth 100000 in
theorem get_bare (s : ByteArray) (p : Int) (w : World) (hE : Err w)
    (HN : Hid (∀ R W, Rd R s p W → Err W → Calls Tryz.prog 115 #[.pointer (some ⟨R, 0, none⟩), .int .u64 4] W fun e w' => Falls e ∧ Below W.heap.size W w')) :
    Calls Tryz.prog 78 #[.string s, .int .i64 p] w (TellsG none w) := by
  have hmf : ∀ (fn : Fn) (first cap : Array Value) (w : World), (Instr.makeFunc fn first cap).run Tryz.prog w = .ok (.func fn first cap) w := fun _ _ _ _ => rfl
  have HE : Hid (∀ W, Below w.heap.size w W → Err W) := Lib.hid fun W h => hE.below h
  clear hE
  go_enter_defers Tryz.func78, Tryz.ntmps78
  go_wp2_with fail
  have hb0 := grows (grows (grows (grew w (.cells #[.slice none 0 0] 25)) (grew _ (.cells #[.int .i64 0] 3))) (grew _ (.cells #[.bool false] 4))) (grew _ (.cells #[.string s, .int .i64 p] 150))
  refine (HN.out _ _ (fresh3 w _ _ _ _) (HE.out _ hb0)).mono ?_
  rintro e w1 ⟨⟨T, pe, rfl⟩, hb1⟩
  have h0 := keep (keep (keep (keep (fresh w _) (old _ _)) (old _ _)) (old _ _)) hb1
  have h1 := keep (keep (keep (fresh1 w _ _) (old _ _)) (old _ _)) hb1
  have h2 := keep (keep (fresh2 w _ _ _) (old _ _)) hb1
  have hb := grows hb0 hb1
  go_wp2
  refine leaves_cons (f := 114) (args := #[.pointer (some ⟨w.heap.size, 0, none⟩), .pointer (some ⟨w.heap.size + 1, 0, none⟩), .pointer (some ⟨w.heap.size + 2, 0, none⟩)]) (by simp) (by simp [go_sem]) ?_
  refine (get_catch w.heap.size _ _ _ pe T [] _ h0 h1 h2).mono ?_
  rintro e u' w2 ⟨rfl, rfl, rfl⟩
  obtain ⟨c0, c1, c2, hbz⟩ := fallen3 hb h0 h1 h2 (.slice none 0 0) 0 false
  simp [Leaves, settle, results, Tryz.results78, go_sem, c0, c1, c2]
  exact ⟨rfl, hbz⟩
end Go.Proofs.YtbilkeadhflibaaGreatDoor.Sel

/- What sel.Get answers where a number of at most four terms stands: term by term. -/
namespace Go.Proofs.YtbilkeadhflibaaGreatDoor.Sel
open Go.RowKit Go.Proofs.YtbilkeadhflibaaGreatDoor.Texts Go.Proofs.YtbilkeadhflibaaGreatDoor.Word Go.Proofs.YtbilkeadhflibaaGreatDoor.Forms Go.Proofs.YtbilkeadhflibaaGreatDoor.Split Go.Proofs.YtbilkeadhflibaaGreatDoor.Boxes

set_option maxHeartbeats 4000000 in
set_option maxRecDepth 100000 in
theorem get_few (s : ByteArray) (hs : s.size ≤ 9223372036854775807) (p : Int) (n : Nat) (q0 : Int) (hn : n ≤ 4) (w : World) (hE : Err w) (hgw : 0 < w.heap.size)
    (HN : Hid (∀ R W, Rd R s p W → Calls Tryz.prog 115 #[.pointer (some ⟨R, 0, none⟩), .int .u64 4] W (Took R s (.int .i64 (n : Int)) q0 W))) :
    Calls Tryz.prog 78 #[.string s, .int .i64 p] w (TellsG (readN (oneR s) n q0) w) := by
  obtain ⟨i0, hi, hz0, hz1, hz2⟩ := info_parts infoT
  have hmf : ∀ (fn : Fn) (first cap : Array Value) (w : World), (Instr.makeFunc fn first cap).run Tryz.prog w = .ok (.func fn first cap) w := fun _ _ _ _ => rfl
  have HE : Hid (∀ W, Below w.heap.size w W → Err W) := Lib.hid fun W h => hE.below h
  clear hE
  go_enter_defers Tryz.func78, Tryz.ntmps78
  go_wp2_with fail
  have hb0 := grows (grows (grows (grew w (.cells #[.slice none 0 0] 25)) (grew _ (.cells #[.int .i64 0] 3))) (grew _ (.cells #[.bool false] 4))) (grew _ (.cells #[.string s, .int .i64 p] 150))
  refine (HN.out _ _ (fresh3 w _ _ _ _)).mono ?_
  rintro e w1 ⟨rfl, hr1, hbut⟩
  have h0 := hbut.keep (keep (keep (keep (fresh w _) (old _ _)) (old _ _)) (old _ _)) (by omega)
  have h1 := hbut.keep (keep (keep (fresh1 w _ _) (old _ _)) (old _ _)) (by omega)
  have h2 := hbut.keep (keep (fresh2 w _ _ _) (old _ _)) (by omega)
  have hb : Below w.heap.size w w1 := hb0.trans (hbut.below (by omega) hb0.size)
  have hB1 : w.heap.size + 4 ≤ w1.heap.size := by have := lt_of hr1; omega
  have HM0 : Hid (Making w.heap.size (w.heap.size + 4) w1 (.slice none 0 0) []) := Lib.hid ⟨h0, World.ownsRow_nil _ _ _ _, fun x hx => by simp at hx⟩
  have H1 := Lib.hid h1
  have H2 := Lib.hid h2
  have HR1 := Lib.hid hr1
  have HB := Lib.hid hb
  clear h0 h1 h2 hb hr1 hbut hb0
  go_wp2_with fail
  go_loopw [13] (fun i wr => ∃ (j : Nat) (v : Value) (xs : List (Tm × Value)) (q : Int), j ≤ n ∧ i = .int .i64 j ∧ xs.length = j ∧ Forms.ahead (xs.map (·.1)) (readN (oneR s) (n - j) q) = readN (oneR s) n q0 ∧ Making w.heap.size (w.heap.size + 4) wr v xs ∧ wr.heap[w.heap.size + 1]? = some (.cells #[.int .i64 0] 3) ∧ wr.heap[w.heap.size + 2]? = some (.cells #[.bool false] 4) ∧
    Rd (w.heap.size + 3) s q wr ∧ w.heap.size + 4 ≤ wr.heap.size ∧ Below w.heap.size w wr) (fun i _ => n - (intOf i).toNat)
  case atStart => exact ⟨0, _, [], q0, Nat.zero_le _, rfl, rfl, ahead_nil _, HM0.out, H1.out, H2.out, HR1.out, hB1, HB.out⟩
  case round =>
    obtain ⟨j, v, xs, q, hj, rfl, hxl, hrd, hmk, h1, h2, hr, hBr, hb⟩ := hrel
    have HXL := Lib.hid hxl
    have HRD := Lib.hid hrd
    have HMK := Lib.hid hmk
    have HH1 := Lib.hid h1
    have HH2 := Lib.hid h2
    have HR := Lib.hid hr
    have hc0 := cell_at (i := 0) hmk.cell rfl
    have hlH := lt_of hmk.cell
    have hvf : ∃ va vn vc, v = .slice va vn vc := by
      rcases hmk.own.2 with ⟨h, _⟩ | ⟨g, cap, cur, h, _⟩
      · exact ⟨_, _, _, h⟩
      · exact ⟨_, _, _, h⟩
    obtain ⟨va, vn, vc, rfl⟩ := hvf
    by_cases hlt : j < n
    · have hltz : (j : Int) < (n : Int) := by omega
      cases hone : oneR s q with
      | some x =>
        obtain ⟨t, q'⟩ := x
        have HT : Hid (∀ W, Below wr.heap.size wr W → Calls Tryz.prog 116 #[.pointer (some ⟨w.heap.size + 3, 0, none⟩)] W (TookT (w.heap.size + 3) s (some (t, q')) W)) := Lib.hid fun W h => by
          rw [← hone]
          exact term_any _ s hs q W (HR.out.below h) (HE.out W (grows hb h)) (by omega)
        have HRD2 : Hid (Forms.ahead (xs.map (·.1) ++ [t]) (readN (oneR s) (n - (j + 1)) q') = readN (oneR s) n q0) := Lib.hid (by rw [← HRD.out, show n - j = (n - (j + 1)) + 1 by omega, readN_go hone])
        have HOw := Lib.hid hmk.own
        have HMax : Hid (xs.length + 1 ≤ maxLen ∧ (xs.length + 1) * 48 ≤ 140737488355328) := Lib.hid (by have := HXL.out; unfold maxLen; omega)
        have HKeep : Hid (∀ W, But (w.heap.size + 3) wr W → W.cell? ⟨w.heap.size, 0, none⟩ = some (.slice va vn vc) ∧ W.frozen? ⟨w.heap.size, 0, none⟩ = false) := Lib.hid fun W h => ⟨cell_at (i := 0) (h.keep hmk.cell (by omega)) rfl, frozen_at (i := 0) (h.keep hmk.cell (by omega))⟩
        have HKeep4 : Hid (∀ W W' o, But (w.heap.size + 3) wr W → (W.alloc o).grownBy W' (Value.slice va vn vc).ownBlock → W'.cell? ⟨w.heap.size, 0, none⟩ = some (.slice va vn vc) ∧ W'.frozen? ⟨w.heap.size, 0, none⟩ = false) := Lib.hid fun W W' o h hg => by
          have h4 := after (h.keep hmk.cell (by omega)) hg (fun e => by have := hmk.own.lt _ e; omega)
          exact ⟨cell_at (i := 0) h4 rfl, frozen_at (i := 0) h4⟩
        obtain ⟨_, hf1⟩ := HKeep.out wr (But.refl _ _)
        clear hone hmk h1 h2 hr hrd hxl
        obtain ⟨tk, tn, tv⟩ := t
        go_wp2_with fail
        first | (go_region_law (first
          | (refine step_append_lies _ rfl _ _ 25 rfl (w.heap.size + 4) 102 i0 (.agg #[.string ByteArray.empty, .bool false, .slice none 0 0]) 3 48 Tryz.underlying25 hi hz0 hz1 hz2 rfl (by decide) (.slice va vn vc) xs.length (tvals xs) rfl (own_below (But.own HOw.out hb3.out (by omega)) (old w3 _)) ⟨w3.heap.size, 0, none⟩ 1 1 [.string tk, .bool tn, .slice sa tv.length sc] rfl rfl (new3 w3 _ _ _ _) (one3 _ _ _ _ _) (by decide) HMax.out.1 HMax.out.2 (by rw [size_alloc]; have := hb3.out.size; omega) (w3.heap.size + 1) (size_alloc _ _) ?_; intro g4 cap4 w4 hown4 hgrow4 hat4 _; have HOwn4 := Lib.hid hown4; have HGrow4 := Lib.hid hgrow4; have HAt4 := Lib.hid hat4; obtain ⟨e4, f4⟩ := HKeep4.out w3 w4 _ hb3.out hgrow4; clear hown4 hgrow4 hat4)
          | (go_simp; go_at_call 116; (with_reducible refine (HT.out _ ((Below.refl _ wr).drew)).mono ?_); rintro e w3 ⟨⟨v3, rfl, s3, rfl, hs3⟩, hr3, hb30⟩; obtain ⟨sa, sc, rfl, _, _⟩ := hs3.1.slice; have hb3 : Hid (But (w.heap.size + 3) wr w3) := Lib.hid ((But.of_below ((Below.refl _ wr).drew)).trans hb30); have HS3 : Hid (SNew wr.heap.size w3 (.slice sa tv.length sc) tv) := Lib.hid hs3; have HR3 := Lib.hid hr3; obtain ⟨e3, f3⟩ := HKeep.out w3 hb3.out; obtain ⟨e3a, f3a⟩ := HKeep.out (w3.alloc (.cells #[.string tk, .bool tn, .slice sa tv.length sc] 102)) (hb3.out.trans (But.of_below (old _ _))); clear hb30 hs3 hr3))) | fail
        all_goals
          go_wp2
          go_roundw
          case rel =>
            obtain ⟨hm5, hk5, hsz5, _⟩ := Making.step (q := fun k => k ≠ w.heap.size + 3) (by omega) HMK.out (by omega) (fun _ _ => by omega) hBr hb3.out.size (fun k hk hq => hb3.out.block k hk hq) (t := (tk, tn, tv)) HS3.out HOwn4.out HGrow4.out HAt4.out
            have hvo : ∀ k, (Value.slice va vn vc).ownBlock = some k → w.heap.size + 4 ≤ k := fun k hk => (HMK.out.own.lt k hk).1
            have hR5 := after HR3.out HGrow4.out (fun e => by have := hvo _ e; omega)
            refine ⟨j + 1, _, _, q', by omega, by go_num, ?_, ?_, hm5, ?_, ?_, ?_, ?_, ?_⟩
            · rw [List.length_append, HXL.out]; rfl
            · rw [List.map_append]; exact HRD2.out
            · exact (hk5 _ (by omega) (by omega) (by omega) (fun e => by have := hvo _ e; omega)).trans HH1.out
            · exact (hk5 _ (by omega) (by omega) (by omega) (fun e => by have := hvo _ e; omega)).trans HH2.out
            · exact (heap_setCell_other _ _ _ _ (by simp)).trans hR5
            · simp; omega
            · have b3 := hb.trans (hb3.out.below (B := w.heap.size) (by omega) (by omega))
              exact ((b3.alloc b3.size _).grown HGrow4.out (by rw [size_alloc]; have := b3.size; omega) (fun k hk => by have := hvo k hk; omega)).setCell (Nat.le_refl _) _
          case measure => simp [intOf]; omega
      | none =>
        have HT : Hid (∀ W, Below wr.heap.size wr W → Calls Tryz.prog 116 #[.pointer (some ⟨w.heap.size + 3, 0, none⟩)] W (TookT (w.heap.size + 3) s none W)) := Lib.hid fun W h => by
          rw [← hone]
          exact term_any _ s hs q W (HR.out.below h) (HE.out W (grows hb h)) (by omega)
        have HNo : Hid (readN (oneR s) n q0 = none) := Lib.hid (by rw [← HRD.out, show n - j = (n - (j + 1)) + 1 by omega, readN_stop hone])
        clear hone hmk h1 h2 hr hrd hxl
        go_wp2_with fail
        first | go_region_dies | fail
        all_goals
          with_reducible refine (HT.out _ ((Below.refl _ wr).drew)).mono ?_
          rintro e w3 ⟨⟨T3, p3, rfl⟩, hb30⟩
          have hb3 := (But.of_below (R := w.heap.size + 3) ((Below.refl _ wr).drew)).trans hb30
          clear hb30
          have k0 := hb3.keep HMK.out.cell (by omega)
          have k1 := hb3.keep HH1.out (by omega)
          have k2 := hb3.keep HH2.out (by omega)
          go_wp2
          refine leaves_cons (f := 114) (args := #[.pointer (some ⟨w.heap.size, 0, none⟩), .pointer (some ⟨w.heap.size + 1, 0, none⟩), .pointer (some ⟨w.heap.size + 2, 0, none⟩)]) (by simp) (by simp [go_sem]) ?_
          refine (get_catch w.heap.size _ _ _ p3 T3 [] _ k0 k1 k2).mono ?_
          rintro e u' w2 ⟨rfl, rfl, rfl⟩
          obtain ⟨d0, d1, d2, hbz⟩ := fallen3 (hb.trans (hb3.below (by omega) (by omega))) k0 k1 k2 (.slice none 0 0) 0 false
          rw [HNo.out]
          simp [Leaves, settle, results, Tryz.results78, go_sem, d0, d1, d2]
          exact ⟨rfl, hbz⟩
    · have hltz : ¬ ((j : Int) < (n : Int)) := by omega
      have hjn : j = n := by omega
      have hf0 := frozen_at (i := 0) hmk.cell
      have cR := cell_at (i := 1) hr rfl
      have c1 := cell_at (i := 0) h1 rfl
      have f1 := frozen_at (i := 0) h1
      have c2 := cell_at (i := 0) h2 rfl
      have f2 := frozen_at (i := 0) h2
      have HFin : Hid (readN (oneR s) n q0 = some (xs.map (·.1), q)) := Lib.hid (by
        rw [← HRD.out, hjn, Nat.sub_self]
        simp [readN, Forms.ahead])
      have HD := Lib.hid (fallen3 (w := wr) hb hmk.cell h1 h2 (.slice va vn vc) q true)
      have HTR : Hid (TRow (((wr.drew.setCell ⟨w.heap.size, 0, none⟩ (.slice va vn vc)).setCell ⟨w.heap.size + 1, 0, none⟩ (.int .i64 q)).setCell ⟨w.heap.size + 2, 0, none⟩ (.bool true)) (.slice va vn vc) (xs.map (·.1))) := Lib.hid (own_trow (ownsRow_setCell_below (ownsRow_setCell_below (ownsRow_setCell_below (w := wr.drew) HMK.out.own (by simp) _) (by simp) _) (by simp) _) fun x hx => ((HMK.out.terms x hx).kept (w' := ((wr.drew.setCell ⟨w.heap.size, 0, none⟩ (.slice va vn vc)).setCell ⟨w.heap.size + 1, 0, none⟩ (.int .i64 q)).setCell ⟨w.heap.size + 2, 0, none⟩ (.bool true)) (q := fun _ => True) (by simp) fun g hg _ => ⟨by
        have := hg.1
        rw [heap_setCell_other _ _ _ _ (by simp; omega), heap_setCell_other _ _ _ _ (by simp; omega), heap_setCell_other _ _ _ _ (by simp; omega)]
        rfl, trivial⟩).1)
      clear hmk h1 h2 hr hrd hxl
      go_wp2_with fail
      first | go_region | fail
      go_wp2
      refine leaves_cons (f := 114) (args := #[.pointer (some ⟨w.heap.size, 0, none⟩), .pointer (some ⟨w.heap.size + 1, 0, none⟩), .pointer (some ⟨w.heap.size + 2, 0, none⟩)]) (by simp) (by simp [go_sem]) ?_
      refine (get_idle _ _ _ _).mono ?_
      rintro e u' w2 ⟨rfl, rfl, rfl⟩
      obtain ⟨d0, d1, d2, hbz⟩ := HD.out
      rw [HFin.out]
      simp [Leaves, settle, results, Tryz.results78, go_sem, d0, d1, d2]
      exact ⟨⟨_, rfl, HTR.out⟩, hbz.drew⟩

/-- What is got, in one form: what the document's Get tells. -/
theorem get_any (s : ByteArray) (hs : s.size ≤ 9223372036854775807) (p : Int) (w : World) (hE : Err w) : Calls Tryz.prog 78 #[.string s, .int .i64 p] w (TellsG (getS s p) w) := by
  have hgw : 0 < w.heap.size := by
    obtain ⟨T, x, h⟩ := hE
    exact World.block_lt_of_cell? w ⟨0, 0, none⟩ h
  unfold getS
  cases h : Wire.getV s.data.toList p with
  | none => exact get_bare s p w hE (Lib.hid fun R W hr hE => number_none R s hs p 4 h W hr hE)
  | some a =>
    simp only
    by_cases h4 : 4 < a.1
    · rw [if_pos h4]
      exact get_bare s p w hE (Lib.hid fun R W hr hE => number_great R s hs p 4 a.1 a.2 h h4 W hr hE)
    · rw [if_neg h4, keep_all (by omega)]
      exact get_few s hs p a.1 a.2 (by omega) w hE hgw (Lib.hid fun R W hr => number_yes R s hs p 4 a.1 a.2 h (by omega) (by omega) W hr)
end Go.Proofs.YtbilkeadhflibaaGreatDoor.Sel

/- What is got of a job: plain functions; what lies in memory while it is got. -/
namespace Go.Proofs.YtbilkeadhflibaaGreatDoor.Job
open Go.RowKit Go.Proofs.YtbilkeadhflibaaGreatDoor.Wire Go.Proofs.YtbilkeadhflibaaGreatDoor.Vec Go.Proofs.YtbilkeadhflibaaGreatDoor.Sel

/-- The number that is got at the k-th place from p on. -/
def valN (l : List UInt8) (p : Int) (k : Nat) : Nat := match getV l (posAt l p k) with
  | some x => x.1
  | none => 0
theorem valAt_eq (l : List UInt8) (p : Int) (k : Nat) : valAt l p k = (valN l p k : Int) := by
  unfold valAt valN
  cases getV l (posAt l p k) <;> rfl
/-- The fields of a job that stand in s at p, whether it may be or not. -/
def fieldsJ (s : ByteArray) (p : Int) : Option (Jb × Int) := match Wire.textV s.data.toList p 98 with
  | none => none
  | some (a, n) =>
    if (okAt s.data.toList n 0 && (okAt s.data.toList n 1 && (okAt s.data.toList n 2 && okAt s.data.toList n 3))) = true then
      (if (good (valN s.data.toList (posAt s.data.toList n 4)) (okAt s.data.toList (posAt s.data.toList n 4)) 0 && (good (valN s.data.toList (posAt s.data.toList n 4)) (okAt s.data.toList (posAt s.data.toList n 4)) 1 && good (valN s.data.toList (posAt s.data.toList n 4)) (okAt s.data.toList (posAt s.data.toList n 4)) 2)) = true then
        (match getS s (posAt s.data.toList (posAt s.data.toList n 4) 3) with
        | none => none
        | some (ls, q) => some ((s.extract a n, (valN s.data.toList n 0, valN s.data.toList n 1, valN s.data.toList n 2, valN s.data.toList n 3),
            ((valN s.data.toList (posAt s.data.toList n 4) 0 : Int), (valN s.data.toList (posAt s.data.toList n 4) 1 : Int), (valN s.data.toList (posAt s.data.toList n 4) 2 : Int)), ls), q))
      else none)
    else none
/-- Get: P11.2. -/
def getJ (s : ByteArray) (p : Int) : Option (Jb × Int) := match fieldsJ s p with
  | none => none
  | some x => if checkJ x.1 = 0 then some x else none

/-- What lies in memory. -/
structure Laid3 (w0 : World) (s : ByteArray) (p : ByteArray) (a0 a1 a2 a3 n m k : Int) (sl : Value) (q : Int) (w : World) : Prop where
  b : Below w0.heap.size w0 w
  z : w0.heap.size + 3 ≤ w.heap.size
  S : w.heap[w0.heap.size]? = some (.cells #[.string s] 9)
  T : w.heap[w0.heap.size + 1]? = some (box9 p a0 a1 a2 a3 n m k sl)
  N : w.heap[w0.heap.size + 1 + 1]? = some (.cells #[.int .i64 q] 3)
theorem Laid3.later {w0 : World} {s p : ByteArray} {a0 a1 a2 a3 n m k : Int} {sl : Value} {q : Int} {w w' : World} (h : Laid3 w0 s p a0 a1 a2 a3 n m k sl q w) (hb : Below (w0.heap.size + 3) w w') : Laid3 w0 s p a0 a1 a2 a3 n m k sl q w' :=
  ⟨h.b.trans (hb.mono (by omega)), Nat.le_trans h.z hb.size, (hb.block _ (by omega)).trans h.S, (hb.block _ (by omega)).trans h.T, (hb.block _ (by omega)).trans h.N⟩
theorem Laid3.more {w0 : World} {s p : ByteArray} {a0 a1 a2 a3 n m k : Int} {sl : Value} {q : Int} {w w' : World} (h : Laid3 w0 s p a0 a1 a2 a3 n m k sl q w) (hb : Below w.heap.size w w') : Laid3 w0 s p a0 a1 a2 a3 n m k sl q w' :=
  h.later (hb.mono h.z)
theorem Laid3.setN {w0 : World} {s p : ByteArray} {a0 a1 a2 a3 n m k : Int} {sl : Value} {q : Int} {w : World} (h : Laid3 w0 s p a0 a1 a2 a3 n m k sl q w) (r : Int) : Laid3 w0 s p a0 a1 a2 a3 n m k sl r (w.setCell ⟨w0.heap.size + 1 + 1, 0, none⟩ (.int .i64 r)) :=
  ⟨h.b.setCell (by simp; omega) _, by simpa using h.z, (heap_setCell_other _ _ _ _ (by simp; omega)).trans h.S, (heap_setCell_other _ _ _ _ (by simp)).trans h.T, by rw [heap_setCell_same w _ 0 _ _ (.int .i64 r) h.N]; rfl⟩
theorem Laid3.setP {w0 : World} {s p : ByteArray} {a0 a1 a2 a3 n m k : Int} {sl : Value} {q : Int} {w : World} (h : Laid3 w0 s p a0 a1 a2 a3 n m k sl q w) (r : ByteArray) : Laid3 w0 s r a0 a1 a2 a3 n m k sl q (w.setCell ⟨w0.heap.size + 1, 0, none⟩ (.string r)) :=
  ⟨h.b.setCell (by simp) _, by simpa using h.z, (heap_setCell_other _ _ _ _ (by simp)).trans h.S, setP_box h.T r, (heap_setCell_other _ _ _ _ (by simp)).trans h.N⟩
theorem Laid3.setS {w0 : World} {s p : ByteArray} {a0 a1 a2 a3 n m k : Int} {sl : Value} {q : Int} {w : World} (h : Laid3 w0 s p a0 a1 a2 a3 n m k sl q w) (v : Value) : Laid3 w0 s p a0 a1 a2 a3 n m k v q (w.setCell ⟨w0.heap.size + 1, 8, none⟩ v) :=
  ⟨h.b.setCell (by simp) _, by simpa using h.z, (heap_setCell_other _ _ _ _ (by simp)).trans h.S, setS_box h.T v, (heap_setCell_other _ _ _ _ (by simp)).trans h.N⟩
theorem Laid3.setD {w0 : World} {s p : ByteArray} {a0 a1 a2 a3 n m k : Int} {sl : Value} {q : Int} {w : World} (h : Laid3 w0 s p a0 a1 a2 a3 n m k sl q w) (b0 b1 b2 b3 : Int) : Laid3 w0 s p b0 b1 b2 b3 n m k sl q (Job.setD (w0.heap.size + 1) b0 b1 b2 b3 w) :=
  ⟨setD_below h.b (by omega), by rw [setD_size]; exact h.z, (setD_other (by omega) _ _ _ _).trans h.S, setD_box h.T _ _ _ _, (setD_other (by omega) _ _ _ _).trans h.N⟩
theorem Laid3.set9 {w0 : World} {s p : ByteArray} {a0 a1 a2 a3 n m k : Int} {sl : Value} {q : Int} {w : World} (h : Laid3 w0 s p a0 a1 a2 a3 n m k sl q w) (p' : ByteArray) (b0 b1 b2 b3 n' m' k' : Int) (v : Value) : Laid3 w0 s p' b0 b1 b2 b3 n' m' k' v q (Job.set9 (w0.heap.size + 1) p' b0 b1 b2 b3 n' m' k' v w) :=
  ⟨set9_below h.b (by omega), by rw [set9_size]; exact h.z, (set9_other (by omega) _ _ _ _ _ _ _ _ _).trans h.S, set9_box h.T _ _ _ _ _ _ _ _ _, (set9_other (by omega) _ _ _ _ _ _ _ _ _).trans h.N⟩
theorem Laid3.drew {w0 : World} {s p : ByteArray} {a0 a1 a2 a3 n m k : Int} {sl : Value} {q : Int} {w : World} (h : Laid3 w0 s p a0 a1 a2 a3 n m k sl q w) : Laid3 w0 s p a0 a1 a2 a3 n m k sl q w.drew :=
  h.more ((Below.refl _ _).drew)

set_option maxRecDepth 100000 in
set_option maxHeartbeats 1000000 in
theorem getOne (S N : Nat) (j : Nat) (s : ByteArray) (q : Int) (u r : Int) (ok : Bool) (wr : World) (hS : wr.heap[S]? = some (.cells #[.string s] 9)) (hN : wr.heap[N]? = some (.cells #[.int .i64 q] 3))
    (st : ∀ w, Calls Tryz.prog 77 #[.string s, .int .i64 q] w fun e w' => e = .returned (.tuple #[.int .u64 u, .int .i64 r, .bool ok]) ∧ Below w.heap.size w w') :
    Calls Tryz.prog 76 #[.int .i64 j, .pointer (some ⟨S, 0, none⟩), .pointer (some ⟨N, 0, none⟩)] wr fun e w' => e = .returned (.tuple #[.int .u64 u, .bool ok]) ∧ ∃ w1, Below wr.heap.size wr w1 ∧ w' = w1.setCell ⟨N, 0, none⟩ (.int .i64 r) := by
  have cS := cell_at (i := 0) (v := .string s) hS rfl
  have cN := cell_at (i := 0) (v := .int .i64 q) hN rfl
  have HST := Lib.hid st
  have HN := Lib.hid hN
  have hlt := (Array.getElem?_eq_some_iff.1 hN).1
  clear st hS hN
  go_enter Tryz.func76, Tryz.ntmps76
  go_wp2_with fail
  refine (HST.out _).mono ?_
  rintro e w1 ⟨rfl, hb⟩
  have hN1 := (hb.block N hlt).trans HN.out
  have cN1 := cell_at (i := 0) (v := .int .i64 q) hN1 rfl
  have fN1 := frozen_at (i := 0) hN1
  clear cS cN HN hN1
  go_wp2
  go_ret2
  exact ⟨rfl, w1, hb, rfl⟩

theorem get_fair3 {w0 : World} {s p : ByteArray} (hs : s.size ≤ 9223372036854775807) {a0 a1 a2 a3 n m k : Int} {sl : Value} (q : Int) {H : Nat} (hH : w0.heap.size + 3 ≤ H) :
    Fair3 H 76 #[.pointer (some ⟨w0.heap.size, 0, none⟩), .pointer (some ⟨w0.heap.size + 1 + 1, 0, none⟩)] (valN s.data.toList q) (okAt s.data.toList q) (fun j => Laid3 w0 s p a0 a1 a2 a3 n m k sl (posAt s.data.toList q j)) := by
  intro j hj wr hz hL
  refine (getOne w0.heap.size (w0.heap.size + 1 + 1) j s (posAt s.data.toList q j) (valN s.data.toList q j) (posAt s.data.toList q (j + 1)) (okAt s.data.toList q j) wr hL.S hL.N (fun W => ?_)).mono ?_
  · have := Vec.get_at s hs q j W
    rw [valAt_eq] at this
    exact this
  · rintro e w' ⟨rfl, w1, hb, rfl⟩
    exact ⟨rfl, (Keeps.of_below hb).set (by simp; omega) _, (hL.more hb).setN _⟩
end Go.Proofs.YtbilkeadhflibaaGreatDoor.Job

/- A selector in memory outlives what is stored of a job beside it: no cell of a text or of a bool is turned. -/
namespace Go.Proofs.YtbilkeadhflibaaGreatDoor.Job
open Go.RowKit Go.Proofs.YtbilkeadhflibaaGreatDoor.Wire Go.Proofs.YtbilkeadhflibaaGreatDoor.Vec Go.Proofs.YtbilkeadhflibaaGreatDoor.Sel Go.Proofs.YtbilkeadhflibaaGreatDoor.Texts

theorem srow_kept {w w' : World} {v : Value} {ts : List ByteArray} (h : SRow w v ts) (hz : w.heap.size ≤ w'.heap.size)
    (hs : ∀ g o x, w.cell? ⟨g, o, none⟩ = some (.string x) → w'.cell? ⟨g, o, none⟩ = some (.string x)) : SRow w' v ts := by
  rcases h with h | ⟨h0, g, o, cap, h1, h2, h3, h4, h5⟩
  · exact .inl h
  · exact .inr ⟨h0, g, o, cap, h1, by omega, h3, h4, fun j t hj => hs _ _ _ (h5 j t hj)⟩
theorem trow_kept {w w' : World} {v : Value} {ls : List Tm} (h : TRow w v ls) (hz : w.heap.size ≤ w'.heap.size)
    (hs : ∀ g o x, w.cell? ⟨g, o, none⟩ = some (.string x) → w'.cell? ⟨g, o, none⟩ = some (.string x))
    (hb : ∀ g o b, w.cell? ⟨g, o, none⟩ = some (.bool b) → ∀ i, w'.cell? ⟨g, i, none⟩ = w.cell? ⟨g, i, none⟩) : TRow w' v ls := by
  rcases h with h | ⟨h0, g, o, cap, h1, h2, h3, h4, h5⟩
  · exact .inl h
  · refine .inr ⟨h0, g, o, cap, h1, by omega, h3, h4, fun j t hj => ?_⟩
    obtain ⟨c1, c2, v', c3, hv⟩ := h5 j t hj
    exact ⟨hs _ _ _ c1, by rw [hb _ _ _ c2]; exact c2, v', by rw [hb _ _ _ c2]; exact c3, srow_kept hv hz hs⟩
theorem cell_in {w : World} {b : Nat} {cs : Array Value} {t : TypeId} (h : w.heap[b]? = some (.cells cs t)) (i : Nat) : w.cell? ⟨b, i, none⟩ = cs[i]? := by simp [World.cell?, h]
theorem cell_same {w w' : World} {b : Nat} (h : w'.heap[b]? = w.heap[b]?) (i : Nat) : w'.cell? ⟨b, i, none⟩ = w.cell? ⟨b, i, none⟩ := by simp [World.cell?, h]
theorem nine {α : Type} {a0 a1 a2 a3 a4 a5 a6 a7 a8 x : α} {i : Nat} (h : (#[a0, a1, a2, a3, a4, a5, a6, a7, a8] : Array α)[i]? = some x) :
    (i = 0 ∧ x = a0) ∨ x = a1 ∨ x = a2 ∨ x = a3 ∨ x = a4 ∨ x = a5 ∨ x = a6 ∨ x = a7 ∨ x = a8 := by
  have hi : i < 9 := by
    have := (Array.getElem?_eq_some_iff.1 h).1
    simpa using this
  have : i = 0 ∨ i = 1 ∨ i = 2 ∨ i = 3 ∨ i = 4 ∨ i = 5 ∨ i = 6 ∨ i = 7 ∨ i = 8 := by omega
  rcases this with rfl | rfl | rfl | rfl | rfl | rfl | rfl | rfl | rfl <;> (simp at h; subst h; simp)
theorem one {α : Type} {a x : α} {i : Nat} (h : (#[a] : Array α)[i]? = some x) : x = a := by
  have hi : i < 1 := by
    have := (Array.getElem?_eq_some_iff.1 h).1
    simpa using this
  have : i = 0 := by omega
  subst this
  simpa using h.symm
/-- Of a job's nine cells one is a text, none a bool. -/
theorem box9_kept {w w' : World} {v : Value} {ls : List Tm} {T : Nat} {p : ByteArray} {a0 a1 a2 a3 n m k b0 b1 b2 b3 n' m' k' : Int} {sa sa' : Option Addr} {sn sc sn' sc' : Nat} (h : TRow w v ls) (hz : w.heap.size ≤ w'.heap.size)
    (hT : w.heap[T]? = some (box9 p a0 a1 a2 a3 n m k (.slice sa sn sc))) (hT' : w'.heap[T]? = some (box9 p b0 b1 b2 b3 n' m' k' (.slice sa' sn' sc')))
    (ho : ∀ g, g ≠ T → w'.heap[g]? = w.heap[g]?) : TRow w' v ls := by
  refine trow_kept h hz (fun g o x hc => ?_) (fun g o b hc i => ?_)
  · by_cases hg : g = T
    · subst hg
      rw [cell_in hT] at hc
      rcases nine hc with ⟨rfl, h⟩ | h | h | h | h | h | h | h | h
      · rw [cell_in hT', h]
        rfl
      all_goals cases h
    · rw [cell_same (ho g hg)]
      exact hc
  · by_cases hg : g = T
    · subst hg
      rw [cell_in hT] at hc
      rcases nine hc with ⟨rfl, h⟩ | h | h | h | h | h | h | h | h <;> cases h
    · exact cell_same (ho g hg) i
theorem Laid3.kept {w0 w w' : World} {s p : ByteArray} {a0 a1 a2 a3 n m k b0 b1 b2 b3 n' m' k' : Int} {sa sa' : Option Addr} {sn sc sn' sc' : Nat} {q q' : Int} (h : Laid3 w0 s p a0 a1 a2 a3 n m k (.slice sa sn sc) q w) (h' : Laid3 w0 s p b0 b1 b2 b3 n' m' k' (.slice sa' sn' sc') q' w')
    (hz : w.heap.size ≤ w'.heap.size) (ho : ∀ g, g ≠ w0.heap.size + 1 → g ≠ w0.heap.size + 1 + 1 → w'.heap[g]? = w.heap[g]?) {v : Value} {ls : List Tm} (hr : TRow w v ls) : TRow w' v ls := by
  refine trow_kept hr hz (fun g o x hc => ?_) (fun g o b hc i => ?_)
  · by_cases hg : g = w0.heap.size + 1
    · subst hg
      rw [cell_in h.T] at hc
      rcases nine hc with ⟨rfl, e⟩ | e | e | e | e | e | e | e | e
      · rw [cell_in h'.T, e]
        rfl
      all_goals cases e
    · by_cases hg2 : g = w0.heap.size + 1 + 1
      · subst hg2
        rw [cell_in h.N] at hc
        cases one hc
      · rw [cell_same (ho g hg hg2)]
        exact hc
  · by_cases hg : g = w0.heap.size + 1
    · subst hg
      rw [cell_in h.T] at hc
      rcases nine hc with ⟨rfl, e⟩ | e | e | e | e | e | e | e | e <;> cases e
    · by_cases hg2 : g = w0.heap.size + 1 + 1
      · subst hg2
        rw [cell_in h.N] at hc
        cases one hc
      · exact cell_same (ho g hg hg2) i
theorem drew_heap (w : World) : w.drew.heap = w.heap := rfl
theorem last_kept {w0 w7 W8 : World} {s p : ByteArray} {a0 a1 a2 a3 n m k : Int} {sa sa' : Option Addr} {sn sc sn' sc' : Nat} {q z : Int} (h : Laid3 w0 s p a0 a1 a2 a3 n m k (.slice sa sn sc) q w7) (h8 : Laid3 w0 s p a0 a1 a2 a3 n m k (.slice sa' sn' sc') z W8)
    (hz : W8.heap.size = w7.heap.size) (ho : ∀ g, g ≠ w0.heap.size + 1 → g ≠ w0.heap.size + 1 + 1 → W8.heap[g]? = w7.heap[g]?) {v : Value} {ls : List Tm} (hr : TRow w7 v ls) :
    TRow ((Job.set9 (w0.heap.size + 1) p a0 a1 a2 a3 n m k (.slice sa' sn' sc') W8).setCell ⟨w0.heap.size + 1 + 1, 0, none⟩ (.int .i64 z)).drew v ls := by
  refine Laid3.kept h ((h8.set9 p a0 a1 a2 a3 n m k (.slice sa' sn' sc')).setN z).drew ?_ (fun g h1 h2 => ?_) hr
  · rw [drew_heap, World.size_setCell, set9_size, hz]
    exact Nat.le_refl _
  · rw [drew_heap, heap_setCell_other _ _ _ _ h2, set9_other h1]
    exact ho g h1 h2
theorem srow_kept' {w w' : World} {v : Value} {ts : List ByteArray} (h : SRow w v ts) (hz : w.heap.size ≤ w'.heap.size) (hq : ∀ x ∈ ts, x ≠ ⟨#[]⟩)
    (hs : ∀ g o x, x ≠ ⟨#[]⟩ → w.cell? ⟨g, o, none⟩ = some (.string x) → w'.cell? ⟨g, o, none⟩ = some (.string x)) : SRow w' v ts := by
  rcases h with h | ⟨h0, g, o, cap, h1, h2, h3, h4, h5⟩
  · exact .inl h
  · exact .inr ⟨h0, g, o, cap, h1, by omega, h3, h4, fun j t hj => hs _ _ _ (hq t (List.mem_of_getElem? hj)) (h5 j t hj)⟩
theorem trow_kept' {w w' : World} {v : Value} {ls : List Tm} (h : TRow w v ls) (hz : w.heap.size ≤ w'.heap.size) (hq : ∀ t ∈ ls, t.1 ≠ ⟨#[]⟩ ∧ ∀ x ∈ t.2.2, x ≠ ⟨#[]⟩)
    (hs : ∀ g o x, x ≠ ⟨#[]⟩ → w.cell? ⟨g, o, none⟩ = some (.string x) → w'.cell? ⟨g, o, none⟩ = some (.string x))
    (hb : ∀ g o b, w.cell? ⟨g, o, none⟩ = some (.bool b) → ∀ i, w'.cell? ⟨g, i, none⟩ = w.cell? ⟨g, i, none⟩) : TRow w' v ls := by
  rcases h with h | ⟨h0, g, o, cap, h1, h2, h3, h4, h5⟩
  · exact .inl h
  · refine .inr ⟨h0, g, o, cap, h1, by omega, h3, h4, fun j t hj => ?_⟩
    obtain ⟨c1, c2, v', c3, hv⟩ := h5 j t hj
    have q := hq t (List.mem_of_getElem? hj)
    exact ⟨hs _ _ _ q.1 c1, by rw [hb _ _ _ c2]; exact c2, v', by rw [hb _ _ _ c2]; exact c3, srow_kept' hv hz q.2 hs⟩
theorem right_full {x : ByteArray} (h : Word.right x.data.toList = true) : x ≠ ⟨#[]⟩ := by
  rintro rfl
  revert h
  decide
/-- A job stored where nothing was: no name is nothing. -/
theorem fresh_kept {w : World} {v : Value} {ls : List Tm} {T : Nat} (h : TRow w v ls) (hr : rightS ls = true) (hT : w.heap[T]? = some (box9 ⟨#[]⟩ 0 0 0 0 0 0 0 (.slice none 0 0)))
    (p : ByteArray) (b0 b1 b2 b3 n' m' k' : Int) (sa' : Option Addr) (sn' sc' : Nat) : TRow (Job.set9 T p b0 b1 b2 b3 n' m' k' (.slice sa' sn' sc') w) v ls := by
  have ho : ∀ g, g ≠ T → (Job.set9 T p b0 b1 b2 b3 n' m' k' (.slice sa' sn' sc') w).heap[g]? = w.heap[g]? := fun g hg => set9_other hg _ _ _ _ _ _ _ _ _
  have hz : w.heap.size ≤ (Job.set9 T p b0 b1 b2 b3 n' m' k' (.slice sa' sn' sc') w).heap.size := by rw [set9_size]; exact Nat.le_refl _
  generalize Job.set9 T p b0 b1 b2 b3 n' m' k' (.slice sa' sn' sc') w = w' at ho hz ⊢
  refine trow_kept' h hz (fun t ht => ?_) (fun g o x hx hc => ?_) (fun g o b hc i => ?_)
  · obtain ⟨h1, _, h3, _⟩ := rightT_parts ((rightS_parts hr).2 t ht)
    exact ⟨right_full h1, fun x hx => right_full (h3 x hx)⟩
  · by_cases hg : g = T
    · rw [hg, cell_in hT] at hc
      rcases nine hc with ⟨_, e⟩ | e | e | e | e | e | e | e | e
      · injection e with e
        exact absurd e hx
      all_goals cases e
    · rw [cell_same (ho g hg)]
      exact hc
  · by_cases hg : g = T
    · rw [hg, cell_in hT] at hc
      rcases nine hc with ⟨_, e⟩ | e | e | e | e | e | e | e | e <;> cases e
    · exact cell_same (ho g hg) i
/-- A selector stored into a job. -/
theorem setS_kept {w : World} {v : Value} {ls : List Tm} {T : Nat} {p : ByteArray} {a0 a1 a2 a3 n m k : Int} {sa : Option Addr} {sn sc : Nat} (h : TRow w v ls) (hT : w.heap[T]? = some (box9 p a0 a1 a2 a3 n m k (.slice sa sn sc)))
    (sa' : Option Addr) (sn' sc' : Nat) : TRow (w.setCell ⟨T, 8, none⟩ (.slice sa' sn' sc')) v ls :=
  box9_kept h (by rw [World.size_setCell]; exact Nat.le_refl _) hT (setS_box hT (.slice sa' sn' sc')) (fun g hg => heap_setCell_other _ _ _ _ hg)
/-- The same job stored again. -/
theorem store_kept {w : World} {v : Value} {ls : List Tm} {T : Nat} {p : ByteArray} {a0 a1 a2 a3 n m k : Int} {sa : Option Addr} {sn sc : Nat} (h : TRow w v ls) (hT : w.heap[T]? = some (box9 p a0 a1 a2 a3 n m k (.slice sa sn sc)))
    (b0 b1 b2 b3 n' m' k' : Int) (sa' : Option Addr) (sn' sc' : Nat) : TRow (Job.set9 T p b0 b1 b2 b3 n' m' k' (.slice sa' sn' sc') w) v ls :=
  box9_kept h (by rw [set9_size]; exact Nat.le_refl _) hT (set9_box hT p b0 b1 b2 b3 n' m' k' (.slice sa' sn' sc')) (fun g hg => set9_other hg _ _ _ _ _ _ _ _ _)
end Go.Proofs.YtbilkeadhflibaaGreatDoor.Job

/- What spec.Get answers of any bytes (written by genjget.py). -/
namespace Go.Proofs.YtbilkeadhflibaaGreatDoor.Job
open Go.RowKit Go.Proofs.YtbilkeadhflibaaGreatDoor.Wire Go.Proofs.YtbilkeadhflibaaGreatDoor.Vec Go.Proofs.YtbilkeadhflibaaGreatDoor.Sel

def TellsF (r : Option (Jb × Int)) (w : World) (e : Ending) (w' : World) : Prop := (match r with
  | some x => ∃ v, e = .returned (.tuple #[valJ x.1 v, .int .i64 x.2, .bool true]) ∧ TRow w' v (terms x.1)
  | none => ∃ p a0 a1 a2 a3 n m k sa sn sc q, e = .returned (.tuple #[val9 p a0 a1 a2 a3 n m k (.slice sa sn sc), .int .i64 q, .bool false])) ∧ Below w.heap.size w w'
theorem all4 {b : Nat → Bool} (h : ∀ i, i < 4 → b i = true) : (b 0 && (b 1 && (b 2 && b 3))) = true := by rw [h 0 (by omega), h 1 (by omega), h 2 (by omega), h 3 (by omega)]; rfl
theorem not4 {b : Nat → Bool} {i : Nat} (hi : i < 4) (h : b i = false) : ¬ (b 0 && (b 1 && (b 2 && b 3))) = true := by
  rcases lt4 hi with rfl | rfl | rfl | rfl <;> rw [h] <;> simp
theorem all3 {b : Nat → Bool} (h : ∀ i, i < 3 → b i = true) : (b 0 && (b 1 && b 2)) = true := by rw [h 0 (by omega), h 1 (by omega), h 2 (by omega)]; rfl
theorem not3 {b : Nat → Bool} {i : Nat} (hi : i < 3) (h : b i = false) : ¬ (b 0 && (b 1 && b 2)) = true := by
  have : i = 0 ∨ i = 1 ∨ i = 2 := by omega
  rcases this with rfl | rfl | rfl <;> rw [h] <;> simp

set_option maxRecDepth 100000 in
set_option maxHeartbeats 8000000 in
theorem getFields_any (s : ByteArray) (hs : s.size ≤ 9223372036854775807) (p : Int) (w : World) (hE : Err w) :
    Calls Tryz.prog 33 #[.string s, .int .i64 p] w (TellsF (fieldsJ s p) w) := by
  have hcl : ∀ (args : Array Value) (w : World), (callFunc 76 args).run Tryz.prog w = .ok (.enter 76 args) w := fun _ _ => by kernel_rfl
  have HE := Lib.hid hE
  have h0 : Laid3 w s ⟨#[]⟩ 0 0 0 0 0 0 0 (.slice none 0 0) 0 (((w.alloc (.cells #[.string s] 9)).alloc (box9 ⟨#[]⟩ 0 0 0 0 0 0 0 (.slice none 0 0))).alloc (.cells #[.int .i64 0] 3)) := by
    refine ⟨(((Below.refl _ _).alloc (Nat.le_refl _) _).alloc (by simp) _).alloc (by simp; omega) _, by simp, ?_, ?_, alloc3 _ _ _ _⟩
    · rw [heap_alloc_old _ _ (by simp; omega), heap_alloc_old _ _ (by simp)]
      exact heap_alloc_new _ _
    · rw [heap_alloc_old _ _ (by simp)]
      exact heap_alloc2_new _ _ _
  have HW := fun p a0 a1 a2 a3 n m k sa sn sc q W => Lib.hid (with_any (cap := #[.pointer (some ⟨w.heap.size, 0, none⟩), .pointer (some ⟨w.heap.size + 1 + 1, 0, none⟩)]) (P := fun j => Laid3 w s p a0 a1 a2 a3 n m k (.slice sa sn sc) (posAt s.data.toList q j)) (v := valN s.data.toList q) (ok := okAt s.data.toList q) hcl p a0 a1 a2 a3 n m k (.slice sa sn sc) W)
  obtain ⟨r, hr⟩ : ∃ r, r = fieldsJ s p := ⟨_, rfl⟩
  rw [← hr]
  unfold fieldsJ at hr
  cases ht : Wire.textV s.data.toList p 98 with
  | none =>
    rw [ht] at hr
    subst hr
    have HT := Lib.hid (fun W => text_no s hs p 98 (by omega) ht W)
    clear ht hcl hE HW
    unfold box9 at h0
    go_enter Tryz.func33, Tryz.ntmps33
    go_wp2_with fail
    refine (HT.out _).mono ?_
    rintro e w1 ⟨rfl, hb1⟩
    have hL := h0.more hb1
    clear h0 hb1

    obtain ⟨⟨c0, c1, c2, c3, c4, c5, c6, c7, c8⟩, f0, f1, f2, f3, f4, f5, f6, f7, f8⟩ := cells9 hL.T
    have cS := cell_at (i := 0) (v := .string s) hL.S rfl
    have cN := cell_at (i := 0) (v := .int .i64 0) hL.N rfl
    have fN := frozen_at (i := 0) hL.N
    have hL2 := (hL.setP ⟨#[]⟩).setN 0
    have HL2 := Lib.hid hL2
    clear hL hL2
    go_upto_region 3 with fail
    obtain ⟨W2, hW2⟩ : ∃ W2, W2 = (w1.setCell ⟨w.heap.size + 1, 0, none⟩ (.string ⟨#[]⟩)).setCell ⟨w.heap.size + 1 + 1, 0, none⟩ (.int .i64 0) := ⟨_, rfl⟩
    have hL2 := HL2.out
    rw [← hW2] at hL2 ⊢
    clear hW2 HL2 c0 c1 c2 c3 c4 c5 c6 c7 c8 f0 f1 f2 f3 f4 f5 f6 f7 f8 cS cN fN
    obtain ⟨⟨c0, c1, c2, c3, c4, c5, c6, c7, c8⟩, f0, f1, f2, f3, f4, f5, f6, f7, f8⟩ := cells9 hL2.T
    have cS := cell_at (i := 0) (v := .string s) hL2.S rfl
    have cN := cell_at (i := 0) (v := .int .i64 0) hL2.N rfl
    have fN := frozen_at (i := 0) hL2.N
    have hZ := (hL2.set9 ⟨#[]⟩ 0 0 0 0 0 0 0 (.slice none 0 0)).setN 0
    have HZ := Lib.hid hZ
    clear hZ
    go_wp2
    have hZ := HZ.out
    obtain ⟨⟨d0, d1, d2, d3, d4, d5, d6, d7, d8⟩, _⟩ := cells9 hZ.T
    have dN := cell_at (i := 0) (v := .int .i64 0) hZ.N rfl
    have hB := hZ.b
    unfold Job.set9 at d0 d1 d2 d3 d4 d5 d6 d7 d8 dN hB
    refine bodyPost_ret (v := .tuple #[.agg #[.string ⟨#[]⟩, .int .u64 0, .int .u64 0, .int .u64 0, .int .u64 0, .int .i64 0, .int .i64 0, .int .i64 0, .slice none 0 0], .int .i64 0, .bool false]) (by simp [results, Tryz.results33, go_sem, d0, d1, d2, d3, d4, d5, d6, d7, d8, dN]) rfl ?_
    exact ⟨⟨_, _, _, _, _, _, _, _, _, _, _, _, rfl⟩, hB⟩
  | some x =>
    obtain ⟨a, n⟩ := x
    rw [ht] at hr
    dsimp only at hr
    have HT := Lib.hid (fun W => text_yes s hs p 98 (by omega) a n ht W)
    have HG := Lib.hid (fun W => getVec_any s hs n W)
    have HR := Lib.hid hr
    obtain ⟨pa, hpa⟩ : ∃ pa, pa = s.extract a n := ⟨_, rfl⟩
    rw [← hpa] at HT HR
    clear ht hcl hE hr hpa
    unfold box9 at h0
    go_enter Tryz.func33, Tryz.ntmps33
    go_wp2_with fail
    refine (HT.out _).mono ?_
    rintro e w1 ⟨rfl, hb1⟩
    have hL := h0.more hb1
    clear h0 hb1
    obtain ⟨⟨c0, c1, c2, c3, c4, c5, c6, c7, c8⟩, f0, f1, f2, f3, f4, f5, f6, f7, f8⟩ := cells9 hL.T
    have cS := cell_at (i := 0) (v := .string s) hL.S rfl
    have cN := cell_at (i := 0) (v := .int .i64 0) hL.N rfl
    have fN := frozen_at (i := 0) hL.N
    have hL2 := (hL.setP pa).setN n
    have HL2 := Lib.hid hL2
    clear hL hL2
    go_upto_region 4 with fail
    obtain ⟨W2, hW2⟩ : ∃ W2, W2 = (w1.setCell ⟨w.heap.size + 1, 0, none⟩ (.string pa)).setCell ⟨w.heap.size + 1 + 1, 0, none⟩ (.int .i64 n) := ⟨_, rfl⟩
    have hL2 := HL2.out
    rw [← hW2] at hL2 ⊢
    clear hW2 HL2 c0 c1 c2 c3 c4 c5 c6 c7 c8 f0 f1 f2 f3 f4 f5 f6 f7 f8 cS cN fN
    obtain ⟨⟨c0, c1, c2, c3, c4, c5, c6, c7, c8⟩, f0, f1, f2, f3, f4, f5, f6, f7, f8⟩ := cells9 hL2.T
    have cS := cell_at (i := 0) (v := .string s) hL2.S rfl
    have cN := cell_at (i := 0) (v := .int .i64 n) hL2.N rfl
    have fN := frozen_at (i := 0) hL2.N
    go_wp2_with fail
    refine (HG.out _).mono ?_
    rintro e w3 ⟨⟨hall, rfl⟩ | ⟨⟨i, hi, hbad⟩, rfl⟩, hb3⟩
    · have hL3 := hL2.more hb3
      have HA4 := Lib.hid hall
      obtain ⟨B0, hB0⟩ : ∃ b : Int, b = valAt s.data.toList n 0 := ⟨_, rfl⟩
      obtain ⟨B1, hB1⟩ : ∃ b : Int, b = valAt s.data.toList n 1 := ⟨_, rfl⟩
      obtain ⟨B2, hB2⟩ : ∃ b : Int, b = valAt s.data.toList n 2 := ⟨_, rfl⟩
      obtain ⟨B3, hB3⟩ : ∃ b : Int, b = valAt s.data.toList n 3 := ⟨_, rfl⟩
      obtain ⟨q, hq⟩ : ∃ q, q = posAt s.data.toList n 4 := ⟨_, rfl⟩
      rw [← hB0, ← hB1, ← hB2, ← hB3, ← hq]
      have HB := Lib.hid (And.intro hB0 (And.intro hB1 (And.intro hB2 (And.intro hB3 hq))))
      clear hL2 hb3 hall hB0 hB1 hB2 hB3 hq c0 c1 c2 c3 c4 c5 c6 c7 c8 f0 f1 f2 f3 f4 f5 f6 f7 f8 cS cN fN
      obtain ⟨⟨c0, c1, c2, c3, c4, c5, c6, c7, c8⟩, f0, f1, f2, f3, f4, f5, f6, f7, f8⟩ := cells9 hL3.T
      have cS := cell_at (i := 0) (v := .string s) hL3.S rfl
      have cN := cell_at (i := 0) (v := .int .i64 n) hL3.N rfl
      have fN := frozen_at (i := 0) hL3.N
      have HL4 := Lib.hid ((hL3.setD B0 B1 B2 B3).setN q)
      clear hL3
      unfold vec
      go_upto_region 7 with fail
      obtain ⟨W4, hW4⟩ : ∃ W4, W4 = (Job.setD (w.heap.size + 1) B0 B1 B2 B3 w3).setCell ⟨w.heap.size + 1 + 1, 0, none⟩ (.int .i64 q) := ⟨_, rfl⟩
      have hL4 := HL4.out
      rw [← hW4] at hL4
      unfold Job.setD at hW4
      rw [← hW4]
      clear hW4 HL4 c0 c1 c2 c3 c4 c5 c6 c7 c8 f0 f1 f2 f3 f4 f5 f6 f7 f8 cS cN fN
      obtain ⟨⟨c0, c1, c2, c3, c4, c5, c6, c7, c8⟩, f0, f1, f2, f3, f4, f5, f6, f7, f8⟩ := cells9 hL4.T
      have cS := cell_at (i := 0) (v := .string s) hL4.S rfl
      have cN := cell_at (i := 0) (v := .int .i64 q) hL4.N rfl
      have fN := frozen_at (i := 0) hL4.N
      have HX := HW pa B0 B1 B2 B3 0 0 0 none 0 0 q W4
      have HX2 := Lib.hid (HX.out (fun j a b hab h => h.later (hab.mono hL4.z)) ⟨_, _, _, rfl⟩ (get_fair3 hs q hL4.z) hL4)
      clear HX HW hL4
      unfold val9 at HX2
      go_wp2_with fail
      refine HX2.out.mono ?_
      clear c0 c1 c2 c3 c4 c5 c6 c7 c8 f0 f1 f2 f3 f4 f5 f6 f7 f8 cS cN fN
      rintro e w5 (⟨hg3, rfl, hL5⟩ | ⟨⟨i, hi, hbad, hL5⟩, rfl⟩)
      · have HG3 := Lib.hid hg3
        obtain ⟨v0, hv0⟩ : ∃ b : Int, b = valN s.data.toList q 0 := ⟨_, rfl⟩
        obtain ⟨v1, hv1⟩ : ∃ b : Int, b = valN s.data.toList q 1 := ⟨_, rfl⟩
        obtain ⟨v2, hv2⟩ : ∃ b : Int, b = valN s.data.toList q 2 := ⟨_, rfl⟩
        obtain ⟨q3, hq3⟩ : ∃ b, b = posAt s.data.toList q 3 := ⟨_, rfl⟩
        rw [← hv0, ← hv1, ← hv2]
        rw [← hq3] at hL5
        have HV := Lib.hid (And.intro hv0 (And.intro hv1 (And.intro hv2 hq3)))
        clear hg3 hv0 hv1 hv2 hq3
        obtain ⟨⟨c0, c1, c2, c3, c4, c5, c6, c7, c8⟩, f0, f1, f2, f3, f4, f5, f6, f7, f8⟩ := cells9 hL5.T
        have cS := cell_at (i := 0) (v := .string s) hL5.S rfl
        have cN := cell_at (i := 0) (v := .int .i64 q3) hL5.N rfl
        have fN := frozen_at (i := 0) hL5.N
        have HL6 := Lib.hid (hL5.set9 pa B0 B1 B2 B3 v0 v1 v2 (.slice none 0 0))
        clear hL5
        unfold val9
        go_upto_region 10 with fail
        obtain ⟨W6, hW6⟩ : ∃ W6, W6 = Job.set9 (w.heap.size + 1) pa B0 B1 B2 B3 v0 v1 v2 (.slice none 0 0) w5 := ⟨_, rfl⟩
        have hL6 := HL6.out
        rw [← hW6] at hL6
        unfold Job.set9 at hW6
        rw [← hW6]
        clear hW6 HL6 c0 c1 c2 c3 c4 c5 c6 c7 c8 f0 f1 f2 f3 f4 f5 f6 f7 f8 cS cN fN
        obtain ⟨⟨c0, c1, c2, c3, c4, c5, c6, c7, c8⟩, f0, f1, f2, f3, f4, f5, f6, f7, f8⟩ := cells9 hL6.T
        have cS := cell_at (i := 0) (v := .string s) hL6.S rfl
        have cN := cell_at (i := 0) (v := .int .i64 q3) hL6.N rfl
        have fN := frozen_at (i := 0) hL6.N
        have HS := Lib.hid (Sel.get_any s hs q3 W6 (HE.out.below hL6.b))
        have HF := Lib.hid (show r = match getS s q3 with
          | none => none
          | some (ls, z) => some ((pa, (valN s.data.toList n 0, valN s.data.toList n 1, valN s.data.toList n 2, valN s.data.toList n 3), (v0, v1, v2), ls), z) from by
            obtain ⟨e0, e1, e2, e3⟩ := HV.out
            obtain ⟨_, _, _, _, eq⟩ := HB.out
            rw [HR.out, if_pos (all4 HA4.out), ← eq, if_pos (all3 HG3.out), e0, e1, e2, ← e3] <;> (cases getS s q3 <;> rfl))
        clear HR
        obtain ⟨g, hg⟩ : ∃ g, g = getS s q3 := ⟨_, rfl⟩
        rw [← hg] at HS HF
        clear hg
        go_wp2_with fail
        refine HS.out.mono ?_
        rintro e w7 ⟨hres, hb7⟩
        have hL7 := hL6.more hb7
        clear hL6 hb7 c0 c1 c2 c3 c4 c5 c6 c7 c8 f0 f1 f2 f3 f4 f5 f6 f7 f8 cS cN fN
        cases g with
        | none =>
          obtain rfl := hres
          obtain ⟨⟨c0, c1, c2, c3, c4, c5, c6, c7, c8⟩, f0, f1, f2, f3, f4, f5, f6, f7, f8⟩ := cells9 hL7.T
          have cS := cell_at (i := 0) (v := .string s) hL7.S rfl
          have cN := cell_at (i := 0) (v := .int .i64 q3) hL7.N rfl
          have fN := frozen_at (i := 0) hL7.N
          have HL8 := Lib.hid ((hL7.setS (.slice none 0 0)).setN 0)
          clear hL7
          go_upto_region 11 with fail
          obtain ⟨W8, hW8⟩ : ∃ W8, W8 = (w7.setCell ⟨w.heap.size + 1, 8, none⟩ (.slice none 0 0)).setCell ⟨w.heap.size + 1 + 1, 0, none⟩ (.int .i64 0) := ⟨_, rfl⟩
          have hL8 := HL8.out
          have HO8 : Hid (∀ g, g ≠ w.heap.size + 1 → g ≠ w.heap.size + 1 + 1 → W8.heap[g]? = w7.heap[g]?) := Lib.hid fun g h1 h2 => by rw [hW8, heap_setCell_other _ _ _ _ (by simpa using h2), heap_setCell_other _ _ _ _ (by simpa using h1)]
          have HZ8 : Hid (W8.heap.size = w7.heap.size) := Lib.hid (by rw [hW8]; simp)
          rw [← hW8] at hL8 ⊢
          clear hW8 HL8 c0 c1 c2 c3 c4 c5 c6 c7 c8 f0 f1 f2 f3 f4 f5 f6 f7 f8 cS cN fN
          obtain ⟨⟨c0, c1, c2, c3, c4, c5, c6, c7, c8⟩, f0, f1, f2, f3, f4, f5, f6, f7, f8⟩ := cells9 hL8.T
          have cS := cell_at (i := 0) (v := .string s) hL8.S rfl
          have cN := cell_at (i := 0) (v := .int .i64 0) hL8.N rfl
          have fN := frozen_at (i := 0) hL8.N
          have HL9 := Lib.hid ((hL8.set9 pa B0 B1 B2 B3 v0 v1 v2 (.slice none 0 0)).setN 0).drew
          clear hL8 HO8 HZ8
          go_region
          go_wp2
          have hZ := HL9.out
          obtain ⟨⟨d0, d1, d2, d3, d4, d5, d6, d7, d8⟩, _⟩ := cells9 hZ.T
          have dN := cell_at (i := 0) (v := .int .i64 0) hZ.N rfl
          have hB := hZ.b
          unfold Job.set9 at d0 d1 d2 d3 d4 d5 d6 d7 d8 dN hB
          refine bodyPost_ret (v := .tuple #[.agg #[.string pa, .int .u64 B0, .int .u64 B1, .int .u64 B2, .int .u64 B3, .int .i64 v0, .int .i64 v1, .int .i64 v2, (.slice none 0 0)], .int .i64 0, .bool false]) (by simp [results, Tryz.results33, go_sem, d0, d1, d2, d3, d4, d5, d6, d7, d8, dN]) rfl ?_
          rw [HF.out]
          exact ⟨⟨_, _, _, _, _, _, _, _, _, _, _, _, rfl⟩, hB⟩
        | some x =>
          obtain ⟨ls, z⟩ := x
          obtain ⟨v, rfl, hrow⟩ := hres
          obtain ⟨sa, sc, rfl, _, _⟩ := hrow.slice
          have HRow := Lib.hid hrow
          have HL7 := Lib.hid hL7
          clear hrow
          dsimp only
          obtain ⟨⟨c0, c1, c2, c3, c4, c5, c6, c7, c8⟩, f0, f1, f2, f3, f4, f5, f6, f7, f8⟩ := cells9 hL7.T
          have cS := cell_at (i := 0) (v := .string s) hL7.S rfl
          have cN := cell_at (i := 0) (v := .int .i64 q3) hL7.N rfl
          have fN := frozen_at (i := 0) hL7.N
          have HL8 := Lib.hid ((hL7.setS (.slice sa ls.length sc)).setN z)
          clear hL7
          go_upto_region 11 with fail
          obtain ⟨W8, hW8⟩ : ∃ W8, W8 = (w7.setCell ⟨w.heap.size + 1, 8, none⟩ (.slice sa ls.length sc)).setCell ⟨w.heap.size + 1 + 1, 0, none⟩ (.int .i64 z) := ⟨_, rfl⟩
          have hL8 := HL8.out
          have HO8 : Hid (∀ g, g ≠ w.heap.size + 1 → g ≠ w.heap.size + 1 + 1 → W8.heap[g]? = w7.heap[g]?) := Lib.hid fun g h1 h2 => by rw [hW8, heap_setCell_other _ _ _ _ (by simpa using h2), heap_setCell_other _ _ _ _ (by simpa using h1)]
          have HZ8 : Hid (W8.heap.size = w7.heap.size) := Lib.hid (by rw [hW8]; simp)
          rw [← hW8] at hL8 ⊢
          clear hW8 HL8 c0 c1 c2 c3 c4 c5 c6 c7 c8 f0 f1 f2 f3 f4 f5 f6 f7 f8 cS cN fN
          obtain ⟨⟨c0, c1, c2, c3, c4, c5, c6, c7, c8⟩, f0, f1, f2, f3, f4, f5, f6, f7, f8⟩ := cells9 hL8.T
          have cS := cell_at (i := 0) (v := .string s) hL8.S rfl
          have cN := cell_at (i := 0) (v := .int .i64 z) hL8.N rfl
          have fN := frozen_at (i := 0) hL8.N
          have HL9 := Lib.hid ((hL8.set9 pa B0 B1 B2 B3 v0 v1 v2 (.slice sa ls.length sc)).setN z).drew
          have HK := Lib.hid (last_kept HL7.out hL8 HZ8.out HO8.out HRow.out)
          clear hL8 HO8 HZ8
          go_region
          go_wp2
          have hZ := HL9.out
          obtain ⟨⟨d0, d1, d2, d3, d4, d5, d6, d7, d8⟩, _⟩ := cells9 hZ.T
          have dN := cell_at (i := 0) (v := .int .i64 z) hZ.N rfl
          have hB := hZ.b
          unfold Job.set9 at d0 d1 d2 d3 d4 d5 d6 d7 d8 dN hB
          have hK := HK.out
          unfold Job.set9 at hK
          refine bodyPost_ret (v := .tuple #[.agg #[.string pa, .int .u64 B0, .int .u64 B1, .int .u64 B2, .int .u64 B3, .int .i64 v0, .int .i64 v1, .int .i64 v2, (.slice sa ls.length sc)], .int .i64 z, .bool true]) (by simp [results, Tryz.results33, go_sem, d0, d1, d2, d3, d4, d5, d6, d7, d8, dN]) rfl ?_
          rw [HF.out]
          refine ⟨⟨.slice sa ls.length sc, ?_, ?_⟩, hB⟩
          · obtain ⟨e0, e1, e2, e3, _⟩ := HB.out
            rw [valAt_eq] at e0 e1 e2 e3
            rw [e0, e1, e2, e3]
            rfl
          · exact hK
      · have HBad := Lib.hid (And.intro hi hbad)
        obtain ⟨q3, hq3⟩ : ∃ b, b = posAt s.data.toList q (i + 1) := ⟨_, rfl⟩
        rw [← hq3] at hL5
        have hrn : r = none := by
          obtain ⟨_, _, _, _, eq⟩ := HB.out
          rw [HR.out, if_pos (all4 HA4.out), ← eq, if_neg (not3 HBad.out.1 HBad.out.2)]
        subst hrn
        clear hq3 hi hbad HR
        obtain ⟨⟨c0, c1, c2, c3, c4, c5, c6, c7, c8⟩, f0, f1, f2, f3, f4, f5, f6, f7, f8⟩ := cells9 hL5.T
        have cS := cell_at (i := 0) (v := .string s) hL5.S rfl
        have cN := cell_at (i := 0) (v := .int .i64 q3) hL5.N rfl
        have fN := frozen_at (i := 0) hL5.N
        have HL6 := Lib.hid (hL5.set9 ⟨#[]⟩ 0 0 0 0 0 0 0 (.slice none 0 0))
        clear hL5
        unfold zero9 val9
        go_upto_region 9 with fail
        obtain ⟨W6, hW6⟩ : ∃ W6, W6 = Job.set9 (w.heap.size + 1) ⟨#[]⟩ 0 0 0 0 0 0 0 (.slice none 0 0) w5 := ⟨_, rfl⟩
        have hL6 := HL6.out
        rw [← hW6] at hL6
        unfold Job.set9 at hW6
        rw [← hW6]
        clear hW6 HL6 c0 c1 c2 c3 c4 c5 c6 c7 c8 f0 f1 f2 f3 f4 f5 f6 f7 f8 cS cN fN
        obtain ⟨⟨c0, c1, c2, c3, c4, c5, c6, c7, c8⟩, f0, f1, f2, f3, f4, f5, f6, f7, f8⟩ := cells9 hL6.T
        have cS := cell_at (i := 0) (v := .string s) hL6.S rfl
        have cN := cell_at (i := 0) (v := .int .i64 q3) hL6.N rfl
        have fN := frozen_at (i := 0) hL6.N
        have hZ := (hL6.set9 ⟨#[]⟩ 0 0 0 0 0 0 0 (.slice none 0 0)).setN 0
        have HZ := Lib.hid hZ
        clear hZ
        go_wp2
        have hZ := HZ.out
        obtain ⟨⟨d0, d1, d2, d3, d4, d5, d6, d7, d8⟩, _⟩ := cells9 hZ.T
        have dN := cell_at (i := 0) (v := .int .i64 0) hZ.N rfl
        have hB := hZ.b
        unfold Job.set9 at d0 d1 d2 d3 d4 d5 d6 d7 d8 dN hB
        refine bodyPost_ret (v := .tuple #[.agg #[.string ⟨#[]⟩, .int .u64 0, .int .u64 0, .int .u64 0, .int .u64 0, .int .i64 0, .int .i64 0, .int .i64 0, .slice none 0 0], .int .i64 0, .bool false]) (by simp [results, Tryz.results33, go_sem, d0, d1, d2, d3, d4, d5, d6, d7, d8, dN]) rfl ?_
        exact ⟨⟨_, _, _, _, _, _, _, _, _, _, _, _, rfl⟩, hB⟩
    · have hL3 := hL2.more hb3
      have hrn : r = none := by rw [HR.out, if_neg (not4 hi hbad)]
      subst hrn
      clear hL2 hb3 hi hbad HR HW c0 c1 c2 c3 c4 c5 c6 c7 c8 f0 f1 f2 f3 f4 f5 f6 f7 f8 cS cN fN
      obtain ⟨⟨c0, c1, c2, c3, c4, c5, c6, c7, c8⟩, f0, f1, f2, f3, f4, f5, f6, f7, f8⟩ := cells9 hL3.T
      have cS := cell_at (i := 0) (v := .string s) hL3.S rfl
      have cN := cell_at (i := 0) (v := .int .i64 n) hL3.N rfl
      have fN := frozen_at (i := 0) hL3.N
      have HL4 := Lib.hid ((hL3.setD 0 0 0 0).setN 0)
      clear hL3
      unfold vec
      go_upto_region 6 with fail
      obtain ⟨W4, hW4⟩ : ∃ W4, W4 = (Job.setD (w.heap.size + 1) 0 0 0 0 w3).setCell ⟨w.heap.size + 1 + 1, 0, none⟩ (.int .i64 0) := ⟨_, rfl⟩
      have hL4 := HL4.out
      rw [← hW4] at hL4
      unfold Job.setD at hW4
      rw [← hW4]
      clear hW4 HL4 c0 c1 c2 c3 c4 c5 c6 c7 c8 f0 f1 f2 f3 f4 f5 f6 f7 f8 cS cN fN
      obtain ⟨⟨c0, c1, c2, c3, c4, c5, c6, c7, c8⟩, f0, f1, f2, f3, f4, f5, f6, f7, f8⟩ := cells9 hL4.T
      have cS := cell_at (i := 0) (v := .string s) hL4.S rfl
      have cN := cell_at (i := 0) (v := .int .i64 0) hL4.N rfl
      have fN := frozen_at (i := 0) hL4.N
      have hZ := (hL4.set9 ⟨#[]⟩ 0 0 0 0 0 0 0 (.slice none 0 0)).setN 0
      have HZ := Lib.hid hZ
      clear hZ
      go_wp2
      have hZ := HZ.out
      obtain ⟨⟨d0, d1, d2, d3, d4, d5, d6, d7, d8⟩, _⟩ := cells9 hZ.T
      have dN := cell_at (i := 0) (v := .int .i64 0) hZ.N rfl
      have hB := hZ.b
      unfold Job.set9 at d0 d1 d2 d3 d4 d5 d6 d7 d8 dN hB
      refine bodyPost_ret (v := .tuple #[.agg #[.string ⟨#[]⟩, .int .u64 0, .int .u64 0, .int .u64 0, .int .u64 0, .int .i64 0, .int .i64 0, .int .i64 0, .slice none 0 0], .int .i64 0, .bool false]) (by simp [results, Tryz.results33, go_sem, d0, d1, d2, d3, d4, d5, d6, d7, d8, dN]) rfl ?_
      exact ⟨⟨_, _, _, _, _, _, _, _, _, _, _, _, rfl⟩, hB⟩
end Go.Proofs.YtbilkeadhflibaaGreatDoor.Job
