/- What the document's own Sync and Cut make of a disk (demesneref09), and all three in one form. -/
import Derived.Test.YtoomanlonhnleaaDRefC
namespace Go.Proofs.Ytoomanlonhnleaa.Disk
open Go.RowKit

theorem set_at2 {w : World} {b : Nat} {x0 x1 x2 x3 x4 x5 x6 x7 : Value} {t : TypeId} (h : w.heap[b]? = some (.cells #[x0, x1, x2, x3, x4, x5, x6, x7] t)) (u : Value) : (w.setCell ⟨b, 2, none⟩ u).heap[b]? = some (.cells #[x0, x1, u, x3, x4, x5, x6, x7] t) := heap_setCell_same w b 2 _ _ u h
theorem set_at4 {w : World} {b : Nat} {x0 x1 x2 x3 x4 x5 x6 x7 : Value} {t : TypeId} (h : w.heap[b]? = some (.cells #[x0, x1, x2, x3, x4, x5, x6, x7] t)) (u : Value) : (w.setCell ⟨b, 4, none⟩ u).heap[b]? = some (.cells #[x0, x1, x2, x3, u, x5, x6, x7] t) := heap_setCell_same w b 4 _ _ u h
set_option maxHeartbeats 1000000 in
theorem sync_ref0 (v : Dk) (hv : v.Fair) (hr : refused v 0 = 0) (hs : used v ≤ 4611686018427387904) (w : World) : Calls Try.prog 13 #[valD v, .int .i64 0] w fun e w' => e = .returned (retD (sync v 0)) ∧ Below w.heap.size w w' := by
  have HR := Lib.hid (refused_ref v 0)
  rw [hr] at HR
  have HRd := Lib.hid (read_ref v (by unfold used at hs; exact hs) 0)
  have HB := Lib.hid (burnt_ref v (put v 0 (get v 0).firm) v hv.f1 (put_rest _ _ _).2.1 hs)
  have hform : sync v 0 = burnt v (put v 0 (get v 0).firm) v := by unfold sync; rw [if_pos hr]
  have hall : (get v 0).all = read v 0 := (read_get v (.inl rfl)).symm
  have hx : put v 0 (get v 0).firm = ⟨v.size, ⟨read v 0, empty⟩, v.f1, v.down, v.fuse, v.keep⟩ := rfl
  obtain ⟨t, ht⟩ : ∃ t, read v 0 = t := ⟨_, rfl⟩
  rw [ht] at HRd hx
  obtain ⟨x, hxe⟩ : ∃ x, put v 0 (get v 0).firm = x := ⟨_, rfl⟩
  rw [hxe] at HB hform hx
  have hm : ∀ (W : World) (b : Nat), W.heap[b]? = some (boxR v) → ((W.setCell ⟨b, 1, none⟩ (.string t)).setCell ⟨b, 2, none⟩ (.string ⟨#[]⟩)).heap[b]? = some (boxR x) := fun W b h => by
    rw [hx]
    exact set1of8 h (.string t) (.string ⟨#[]⟩)
  rw [hform]
  obtain ⟨z, k, hzk⟩ : ∃ z k, burnt v x v = (z, k) := ⟨_, _, rfl⟩
  rw [hzk] at HB ⊢
  unfold retD valD at HB
  unfold valD at HR HRd ⊢
  dsimp only at HB
  clear hform hall ht hxe hx hzk hr hv hs
  go_enter Try.func13, Try.ntmps13
  go_upto_region 1 with fail
  have hd := doorR w v
  obtain ⟨W0, hW0⟩ : ∃ W0, W0 = (w.alloc (boxR v)).alloc zeroR := ⟨_, rfl⟩
  rw [← hW0] at hd ⊢
  clear hW0
  go_wp2_with (refine Whole.load W0 rfl _ 31 rfl _ _ _ rfl hd.d Try.underlying31 rfl szR ?_)
  refine (HR.out _).mono ?_
  rintro e w1 ⟨rfl, hw1⟩
  have hd1 := hd.more hw1
  clear hd hw1
  have h1 := hd1.d
  have hlt := Boxes.lt_of hd1.r
  have hd2 := hd1.more (Boxes.old w1 (boxR v))
  have hx2 := Boxes.fresh w1 (boxR v)
  go_upto_region 5 with (first | (refine Whole.load w1 rfl _ 31 rfl _ _ _ rfl h1 Try.underlying31 rfl szR ?_) | (refine store_new w1 rfl rfl _ _ 31 rfl _ (cellsD v) rfl rfl szR rfl (one_cells v) ?_))
  obtain ⟨W2, hW2⟩ : ∃ W2, W2 = w1.alloc (boxR v) := ⟨_, rfl⟩
  rw [← hW2] at hd2 hx2 ⊢
  clear hW2 h1 hd1
  have h2 := hd2.d
  go_wp2_with (refine Whole.load W2 rfl _ 31 rfl _ _ _ rfl h2 Try.underlying31 rfl szR ?_)
  refine (HRd.out _).mono ?_
  rintro e w3 ⟨rfl, hw3⟩
  have hd3 := hd2.more hw3
  have hx3 := Boxes.keep hx2 hw3
  obtain ⟨_, t1, t2, t3, t4, _, _, _⟩ := cells8 hx3
  have hfz := thaw hx3
  have hd4 := (hd3.set (show w.heap.size + 1 < w1.heap.size from hlt) 1 (.string t)).set (show w.heap.size + 1 < w1.heap.size from hlt) 2 (.string ⟨#[]⟩)
  have hx4 := hm _ _ hx3
  clear hd2 hx2 h2 hw3 HRd HR
  go_upto_region 6 with fail
  obtain ⟨W4, hW4⟩ : ∃ W4, W4 = (w3.setCell ⟨w1.heap.size, 1, none⟩ (.string t)).setCell ⟨w1.heap.size, 2, none⟩ (.string ⟨#[]⟩) := ⟨_, rfl⟩
  rw [← hW4] at hd4 hx4 ⊢
  clear hW4 t1 t2 t3 t4 hfz hd3 hx3 hm
  have h5 := hd4.d
  go_wp2_with (first | (refine Whole.load W4 rfl _ 31 rfl _ _ _ rfl h5 Try.underlying31 rfl szR ?_) | (refine Whole.load W4 rfl _ 31 rfl _ _ _ rfl hx4 Try.underlying31 rfl szR ?_))
  refine (HB.out _).mono ?_
  rintro e w5 ⟨rfl, hw5⟩
  have hd5 := hd4.more hw5
  obtain ⟨hE, hB⟩ := hd5.back z
  have h2 := hd5.r
  go_wp2_with (refine Whole.store w5 rfl rfl _ _ 31 rfl (w.heap.size + 1) _ (cellsD z) rfl rfl h2 szR rfl (one_cells z) ?_)
  refine bodyPost_ret (v := retD (z, k)) (result_pairR rfl _ _ z k rfl hE rfl) rfl ⟨rfl, hB⟩
set_option maxHeartbeats 1000000 in
theorem cut_ref0 (v : Dk) (hv : v.Fair) (n m : Int) (hn : n ≤ 9223372036854775807) (hm : (n < 0 ∧ m = 0) ∨ (0 ≤ n ∧ m = n)) (hr : refused v 0 = 0) (hs : used v ≤ 4611686018427387904) (w : World) : Calls Try.prog 15 #[valD v, .int .i64 0, .int .i64 n] w fun e w' => e = .returned (retD (cut v 0 m)) ∧ Below w.heap.size w w' := by
  have HR := Lib.hid (refused_ref v 0)
  rw [hr] at HR
  have HB := Lib.hid (burnt_ref v (put v 0 ((get v 0).head m)) v hv.f1 (put_rest _ _ _).2.1 hs)
  have hform : cut v 0 m = burnt v (put v 0 ((get v 0).head m)) v := by unfold cut; rw [if_pos hr]
  have mx := max_run n 0 m (by omega)
  have hsz : v.f0.hard.size ≤ 4611686018427387904 ∧ v.f0.soft.size ≤ 4611686018427387904 := by unfold used Fl.size at hs; omega
  have hget : get v 0 = v.f0 := rfl
  have key : (m < (v.f0.hard.size : Int) ∧ put v 0 ((get v 0).head m) = ⟨v.size, ⟨v.f0.hard.extract 0 m.toNat, empty⟩, v.f1, v.down, v.fuse, v.keep⟩) ∨
      ((v.f0.hard.size : Int) ≤ m ∧ m - v.f0.hard.size < v.f0.soft.size ∧ put v 0 ((get v 0).head m) = ⟨v.size, ⟨v.f0.hard, v.f0.soft.extract 0 (m - v.f0.hard.size).toNat⟩, v.f1, v.down, v.fuse, v.keep⟩) ∨
      ((v.f0.hard.size : Int) ≤ m ∧ (v.f0.soft.size : Int) ≤ m - v.f0.hard.size ∧ put v 0 ((get v 0).head m) = v) := by
    rw [hget]
    by_cases h1 : m < (v.f0.hard.size : Int)
    · refine .inl ⟨h1, ?_⟩
      rw [head_short h1, clip_part (by omega)]
      rfl
    · by_cases h2 : m - v.f0.hard.size < v.f0.soft.size
      · refine .inr (.inl ⟨by omega, h2, ?_⟩)
        rw [head_soft (by omega), clip_part (by omega)]
        rfl
      · refine .inr (.inr ⟨by omega, by omega, ?_⟩)
        rw [head_long (by omega), ← hget, put_get]
  have hm0 : 0 ≤ m := by omega
  have hmn : m ≤ 9223372036854775807 := by omega
  obtain ⟨x, hxe⟩ : ∃ x, put v 0 ((get v 0).head m) = x := ⟨_, rfl⟩
  rw [hxe] at HB hform key
  rw [hform]
  obtain ⟨z, k, hzk⟩ : ∃ z k, burnt v x v = (z, k) := ⟨_, _, rfl⟩
  rw [hzk] at HB ⊢
  unfold retD valD at HB
  unfold valD at HR ⊢
  dsimp only at HB
  clear hform hxe hzk hr hv hs hget
  go_enter Try.func15, Try.ntmps15
  go_upto_region 1 with fail
  have hd := doorR w v
  obtain ⟨W0, hW0⟩ : ∃ W0, W0 = (w.alloc (boxR v)).alloc zeroR := ⟨_, rfl⟩
  rw [← hW0] at hd ⊢
  clear hW0
  go_wp2_with (refine Whole.load W0 rfl _ 31 rfl _ _ _ rfl hd.d Try.underlying31 rfl szR ?_)
  refine (HR.out _).mono ?_
  rintro e w1 ⟨rfl, hw1⟩
  have hd1 := hd.more hw1
  clear hd hw1
  have h1 := hd1.d
  have hlt := Boxes.lt_of hd1.r
  have hd2 := hd1.more (Boxes.old w1 (boxR v))
  have hx2 := Boxes.fresh w1 (boxR v)
  go_upto_region 5 with (first | (refine Whole.load w1 rfl _ 31 rfl _ _ _ rfl h1 Try.underlying31 rfl szR ?_) | (refine store_new w1 rfl rfl _ _ 31 rfl _ (cellsD v) rfl rfl szR rfl (one_cells v) ?_))
  obtain ⟨W2, hW2⟩ : ∃ W2, W2 = w1.alloc (boxR v) := ⟨_, rfl⟩
  rw [← hW2] at hd2 hx2 ⊢
  clear hW2 h1 hd1
  have h2 := hd2.d
  have dh := Boxes.cell_at (i := 1) h2 (v := .string v.f0.hard) rfl
  have ds := Boxes.cell_at (i := 2) h2 (v := .string v.f0.soft) rfl
  obtain ⟨_, t1, t2, t3, t4, _, _, _⟩ := cells8 hx2
  have hfz := thaw hx2
  have hset := fun i u => hd2.set (show w.heap.size + 1 < w1.heap.size from hlt) i u
  go_upto_region 8 with fail
  obtain ⟨hh, hhe⟩ : ∃ hh, v.f0.hard = hh := ⟨_, rfl⟩
  obtain ⟨ss, hse⟩ : ∃ ss, v.f0.soft = ss := ⟨_, rfl⟩
  rw [hhe, hse] at key hsz
  rw [hhe] at dh t1 ⊢
  rw [hse] at ds t2 ⊢
  rcases key with ⟨k1, kx⟩ | ⟨k1, k2, kx⟩ | ⟨k1, k2, kx⟩
  · have hx4 : ((W2.setCell ⟨w1.heap.size, 1, none⟩ (.string (hh.extract 0 m.toNat))).setCell ⟨w1.heap.size, 2, none⟩ (.string ⟨#[]⟩)).heap[w1.heap.size]? = some (boxR x) := by
      rw [kx]
      exact set1of8 hx2 (.string (hh.extract 0 m.toNat)) (.string ⟨#[]⟩)
    have hd4 := (hset 1 (.string (hh.extract 0 m.toNat))).set (show w.heap.size + 1 < w1.heap.size from hlt) 2 (.string ⟨#[]⟩)
    clear kx
    have kd : decide (m < (hh.size : Int)) = true := decide_eq_true k1
    have kle : m ≤ (hh.size : Int) := by omega
    go_upto_region 12 with fail
    obtain ⟨W4, hW4⟩ : ∃ W4, W4 = (W2.setCell ⟨w1.heap.size, 1, none⟩ (.string (hh.extract 0 m.toNat))).setCell ⟨w1.heap.size, 2, none⟩ (.string ⟨#[]⟩) := ⟨_, rfl⟩
    rw [← hW4] at hd4 hx4 ⊢
    clear hW4 t1 t2 t3 t4 hfz hset hd2 hx2 dh ds h2
    have h5 := hd4.d
    go_wp2_with (first | (refine Whole.load W4 rfl _ 31 rfl _ _ _ rfl h5 Try.underlying31 rfl szR ?_) | (refine Whole.load W4 rfl _ 31 rfl _ _ _ rfl hx4 Try.underlying31 rfl szR ?_))
    refine (HB.out _).mono ?_
    rintro e w5 ⟨rfl, hw5⟩
    have hd5 := hd4.more hw5
    obtain ⟨hE, hB⟩ := hd5.back z
    have h2 := hd5.r
    go_wp2_with (refine Whole.store w5 rfl rfl _ _ 31 rfl (w.heap.size + 1) _ (cellsD z) rfl rfl h2 szR rfl (one_cells z) ?_)
    refine bodyPost_ret (v := retD (z, k)) (result_pairR rfl _ _ z k rfl hE rfl) rfl ⟨rfl, hB⟩
  · have hx4 : (W2.setCell ⟨w1.heap.size, 2, none⟩ (.string (ss.extract 0 (m - hh.size).toNat))).heap[w1.heap.size]? = some (boxR x) := by
      obtain ⟨cc, hcc⟩ : ∃ cc, ss.extract 0 (m - hh.size).toNat = cc := ⟨_, rfl⟩
      rw [hcc] at kx ⊢
      rw [kx, ← hhe]
      exact set_at2 hx2 (.string cc)
    have hd4 := hset 2 (.string (ss.extract 0 (m - hh.size).toNat))
    have kt : (m - (hh.size : Int)).toNat = m.toNat - hh.size := by omega
    rw [kt] at hx4 hd4
    clear kt
    clear kx
    have kd : decide (m < (hh.size : Int)) = false := decide_eq_false (by omega)
    have kn : ¬ m < (hh.size : Int) := by omega
    have kd2 : decide (m - (hh.size : Int) < (ss.size : Int)) = true := decide_eq_true (by omega)
    have kle : m - (hh.size : Int) ≤ (ss.size : Int) := by omega
    have k0 : 0 ≤ m - (hh.size : Int) := by omega
    have kw : IntKind.i64.wrap (m - (hh.size : Int)) = m - (hh.size : Int) := by rw [IntKind.wrap_i64]; omega
    go_upto_region 12 with fail
    obtain ⟨W4, hW4⟩ : ∃ W4, W4 = W2.setCell ⟨w1.heap.size, 2, none⟩ (.string (ss.extract 0 (m.toNat - hh.size))) := ⟨_, rfl⟩
    rw [← hW4] at hd4 hx4 ⊢
    clear hW4 t1 t2 t3 t4 hfz hset hd2 hx2 dh ds h2
    have h5 := hd4.d
    go_wp2_with (first | (refine Whole.load W4 rfl _ 31 rfl _ _ _ rfl h5 Try.underlying31 rfl szR ?_) | (refine Whole.load W4 rfl _ 31 rfl _ _ _ rfl hx4 Try.underlying31 rfl szR ?_))
    refine (HB.out _).mono ?_
    rintro e w5 ⟨rfl, hw5⟩
    have hd5 := hd4.more hw5
    obtain ⟨hE, hB⟩ := hd5.back z
    have h2 := hd5.r
    go_wp2_with (refine Whole.store w5 rfl rfl _ _ 31 rfl (w.heap.size + 1) _ (cellsD z) rfl rfl h2 szR rfl (one_cells z) ?_)
    refine bodyPost_ret (v := retD (z, k)) (result_pairR rfl _ _ z k rfl hE rfl) rfl ⟨rfl, hB⟩
  · have hx4 : W2.heap[w1.heap.size]? = some (boxR x) := by
      rw [kx]
      exact hx2
    clear kx
    have kd : decide (m < (hh.size : Int)) = false := decide_eq_false (by omega)
    have kn : ¬ m < (hh.size : Int) := by omega
    have kd2 : decide (m - (hh.size : Int) < (ss.size : Int)) = false := decide_eq_false (by omega)
    have kn2 : ¬ m - (hh.size : Int) < (ss.size : Int) := by omega
    have kw : IntKind.i64.wrap (m - (hh.size : Int)) = m - (hh.size : Int) := by rw [IntKind.wrap_i64]; omega
    go_upto_region 12 with fail
    clear t1 t2 t3 t4 hfz hset hx2 dh ds
    go_wp2_with (first | (refine Whole.load W2 rfl _ 31 rfl _ _ _ rfl h2 Try.underlying31 rfl szR ?_) | (refine Whole.load W2 rfl _ 31 rfl _ _ _ rfl hx4 Try.underlying31 rfl szR ?_))
    refine (HB.out _).mono ?_
    rintro e w5 ⟨rfl, hw5⟩
    have hd5 := hd2.more hw5
    obtain ⟨hE, hB⟩ := hd5.back z
    have h2 := hd5.r
    go_wp2_with (refine Whole.store w5 rfl rfl _ _ 31 rfl (w.heap.size + 1) _ (cellsD z) rfl rfl h2 szR rfl (one_cells z) ?_)
    refine bodyPost_ret (v := retD (z, k)) (result_pairR rfl _ _ z k rfl hE rfl) rfl ⟨rfl, hB⟩
set_option maxHeartbeats 1000000 in
theorem sync_ref1 (v : Dk) (hv : v.Fair) (hr : refused v 1 = 0) (hs : used v ≤ 4611686018427387904) (w : World) : Calls Try.prog 13 #[valD v, .int .i64 1] w fun e w' => e = .returned (retD (sync v 1)) ∧ Below w.heap.size w w' := by
  have HR := Lib.hid (refused_ref v 1)
  rw [hr] at HR
  have HRd := Lib.hid (read_ref v (by unfold used at hs; exact hs) 1)
  have HB := Lib.hid (burnt_ref v (put v 1 (get v 1).firm) v hv.f1 (put_rest _ _ _).2.1 hs)
  have hform : sync v 1 = burnt v (put v 1 (get v 1).firm) v := by unfold sync; rw [if_pos hr]
  have hall : (get v 1).all = read v 1 := (read_get v (.inr rfl)).symm
  have hx : put v 1 (get v 1).firm = ⟨v.size, v.f0, ⟨read v 1, empty⟩, v.down, v.fuse, v.keep⟩ := rfl
  obtain ⟨t, ht⟩ : ∃ t, read v 1 = t := ⟨_, rfl⟩
  rw [ht] at HRd hx
  obtain ⟨x, hxe⟩ : ∃ x, put v 1 (get v 1).firm = x := ⟨_, rfl⟩
  rw [hxe] at HB hform hx
  have hm : ∀ (W : World) (b : Nat), W.heap[b]? = some (boxR v) → ((W.setCell ⟨b, 3, none⟩ (.string t)).setCell ⟨b, 4, none⟩ (.string ⟨#[]⟩)).heap[b]? = some (boxR x) := fun W b h => by
    rw [hx]
    exact set3of8 h (.string t) (.string ⟨#[]⟩)
  rw [hform]
  obtain ⟨z, k, hzk⟩ : ∃ z k, burnt v x v = (z, k) := ⟨_, _, rfl⟩
  rw [hzk] at HB ⊢
  unfold retD valD at HB
  unfold valD at HR HRd ⊢
  dsimp only at HB
  clear hform hall ht hxe hx hzk hr hv hs
  go_enter Try.func13, Try.ntmps13
  go_upto_region 1 with fail
  have hd := doorR w v
  obtain ⟨W0, hW0⟩ : ∃ W0, W0 = (w.alloc (boxR v)).alloc zeroR := ⟨_, rfl⟩
  rw [← hW0] at hd ⊢
  clear hW0
  go_wp2_with (refine Whole.load W0 rfl _ 31 rfl _ _ _ rfl hd.d Try.underlying31 rfl szR ?_)
  refine (HR.out _).mono ?_
  rintro e w1 ⟨rfl, hw1⟩
  have hd1 := hd.more hw1
  clear hd hw1
  have h1 := hd1.d
  have hlt := Boxes.lt_of hd1.r
  have hd2 := hd1.more (Boxes.old w1 (boxR v))
  have hx2 := Boxes.fresh w1 (boxR v)
  go_upto_region 5 with (first | (refine Whole.load w1 rfl _ 31 rfl _ _ _ rfl h1 Try.underlying31 rfl szR ?_) | (refine store_new w1 rfl rfl _ _ 31 rfl _ (cellsD v) rfl rfl szR rfl (one_cells v) ?_))
  obtain ⟨W2, hW2⟩ : ∃ W2, W2 = w1.alloc (boxR v) := ⟨_, rfl⟩
  rw [← hW2] at hd2 hx2 ⊢
  clear hW2 h1 hd1
  have h2 := hd2.d
  go_wp2_with (refine Whole.load W2 rfl _ 31 rfl _ _ _ rfl h2 Try.underlying31 rfl szR ?_)
  refine (HRd.out _).mono ?_
  rintro e w3 ⟨rfl, hw3⟩
  have hd3 := hd2.more hw3
  have hx3 := Boxes.keep hx2 hw3
  obtain ⟨_, t1, t2, t3, t4, _, _, _⟩ := cells8 hx3
  have hfz := thaw hx3
  have hd4 := (hd3.set (show w.heap.size + 1 < w1.heap.size from hlt) 3 (.string t)).set (show w.heap.size + 1 < w1.heap.size from hlt) 4 (.string ⟨#[]⟩)
  have hx4 := hm _ _ hx3
  clear hd2 hx2 h2 hw3 HRd HR
  go_upto_region 6 with fail
  obtain ⟨W4, hW4⟩ : ∃ W4, W4 = (w3.setCell ⟨w1.heap.size, 3, none⟩ (.string t)).setCell ⟨w1.heap.size, 4, none⟩ (.string ⟨#[]⟩) := ⟨_, rfl⟩
  rw [← hW4] at hd4 hx4 ⊢
  clear hW4 t1 t2 t3 t4 hfz hd3 hx3 hm
  have h5 := hd4.d
  go_wp2_with (first | (refine Whole.load W4 rfl _ 31 rfl _ _ _ rfl h5 Try.underlying31 rfl szR ?_) | (refine Whole.load W4 rfl _ 31 rfl _ _ _ rfl hx4 Try.underlying31 rfl szR ?_))
  refine (HB.out _).mono ?_
  rintro e w5 ⟨rfl, hw5⟩
  have hd5 := hd4.more hw5
  obtain ⟨hE, hB⟩ := hd5.back z
  have h2 := hd5.r
  go_wp2_with (refine Whole.store w5 rfl rfl _ _ 31 rfl (w.heap.size + 1) _ (cellsD z) rfl rfl h2 szR rfl (one_cells z) ?_)
  refine bodyPost_ret (v := retD (z, k)) (result_pairR rfl _ _ z k rfl hE rfl) rfl ⟨rfl, hB⟩
set_option maxHeartbeats 1000000 in
theorem cut_ref1 (v : Dk) (hv : v.Fair) (n m : Int) (hn : n ≤ 9223372036854775807) (hm : (n < 0 ∧ m = 0) ∨ (0 ≤ n ∧ m = n)) (hr : refused v 1 = 0) (hs : used v ≤ 4611686018427387904) (w : World) : Calls Try.prog 15 #[valD v, .int .i64 1, .int .i64 n] w fun e w' => e = .returned (retD (cut v 1 m)) ∧ Below w.heap.size w w' := by
  have HR := Lib.hid (refused_ref v 1)
  rw [hr] at HR
  have HB := Lib.hid (burnt_ref v (put v 1 ((get v 1).head m)) v hv.f1 (put_rest _ _ _).2.1 hs)
  have hform : cut v 1 m = burnt v (put v 1 ((get v 1).head m)) v := by unfold cut; rw [if_pos hr]
  have mx := max_run n 0 m (by omega)
  have hsz : v.f1.hard.size ≤ 4611686018427387904 ∧ v.f1.soft.size ≤ 4611686018427387904 := by unfold used Fl.size at hs; omega
  have hget : get v 1 = v.f1 := rfl
  have key : (m < (v.f1.hard.size : Int) ∧ put v 1 ((get v 1).head m) = ⟨v.size, v.f0, ⟨v.f1.hard.extract 0 m.toNat, empty⟩, v.down, v.fuse, v.keep⟩) ∨
      ((v.f1.hard.size : Int) ≤ m ∧ m - v.f1.hard.size < v.f1.soft.size ∧ put v 1 ((get v 1).head m) = ⟨v.size, v.f0, ⟨v.f1.hard, v.f1.soft.extract 0 (m - v.f1.hard.size).toNat⟩, v.down, v.fuse, v.keep⟩) ∨
      ((v.f1.hard.size : Int) ≤ m ∧ (v.f1.soft.size : Int) ≤ m - v.f1.hard.size ∧ put v 1 ((get v 1).head m) = v) := by
    rw [hget]
    by_cases h1 : m < (v.f1.hard.size : Int)
    · refine .inl ⟨h1, ?_⟩
      rw [head_short h1, clip_part (by omega)]
      rfl
    · by_cases h2 : m - v.f1.hard.size < v.f1.soft.size
      · refine .inr (.inl ⟨by omega, h2, ?_⟩)
        rw [head_soft (by omega), clip_part (by omega)]
        rfl
      · refine .inr (.inr ⟨by omega, by omega, ?_⟩)
        rw [head_long (by omega), ← hget, put_get]
  have hm0 : 0 ≤ m := by omega
  have hmn : m ≤ 9223372036854775807 := by omega
  obtain ⟨x, hxe⟩ : ∃ x, put v 1 ((get v 1).head m) = x := ⟨_, rfl⟩
  rw [hxe] at HB hform key
  rw [hform]
  obtain ⟨z, k, hzk⟩ : ∃ z k, burnt v x v = (z, k) := ⟨_, _, rfl⟩
  rw [hzk] at HB ⊢
  unfold retD valD at HB
  unfold valD at HR ⊢
  dsimp only at HB
  clear hform hxe hzk hr hv hs hget
  go_enter Try.func15, Try.ntmps15
  go_upto_region 1 with fail
  have hd := doorR w v
  obtain ⟨W0, hW0⟩ : ∃ W0, W0 = (w.alloc (boxR v)).alloc zeroR := ⟨_, rfl⟩
  rw [← hW0] at hd ⊢
  clear hW0
  go_wp2_with (refine Whole.load W0 rfl _ 31 rfl _ _ _ rfl hd.d Try.underlying31 rfl szR ?_)
  refine (HR.out _).mono ?_
  rintro e w1 ⟨rfl, hw1⟩
  have hd1 := hd.more hw1
  clear hd hw1
  have h1 := hd1.d
  have hlt := Boxes.lt_of hd1.r
  have hd2 := hd1.more (Boxes.old w1 (boxR v))
  have hx2 := Boxes.fresh w1 (boxR v)
  go_upto_region 5 with (first | (refine Whole.load w1 rfl _ 31 rfl _ _ _ rfl h1 Try.underlying31 rfl szR ?_) | (refine store_new w1 rfl rfl _ _ 31 rfl _ (cellsD v) rfl rfl szR rfl (one_cells v) ?_))
  obtain ⟨W2, hW2⟩ : ∃ W2, W2 = w1.alloc (boxR v) := ⟨_, rfl⟩
  rw [← hW2] at hd2 hx2 ⊢
  clear hW2 h1 hd1
  have h2 := hd2.d
  have dh := Boxes.cell_at (i := 3) h2 (v := .string v.f1.hard) rfl
  have ds := Boxes.cell_at (i := 4) h2 (v := .string v.f1.soft) rfl
  obtain ⟨_, t1, t2, t3, t4, _, _, _⟩ := cells8 hx2
  have hfz := thaw hx2
  have hset := fun i u => hd2.set (show w.heap.size + 1 < w1.heap.size from hlt) i u
  go_upto_region 8 with fail
  obtain ⟨hh, hhe⟩ : ∃ hh, v.f1.hard = hh := ⟨_, rfl⟩
  obtain ⟨ss, hse⟩ : ∃ ss, v.f1.soft = ss := ⟨_, rfl⟩
  rw [hhe, hse] at key hsz
  rw [hhe] at dh t3 ⊢
  rw [hse] at ds t4 ⊢
  rcases key with ⟨k1, kx⟩ | ⟨k1, k2, kx⟩ | ⟨k1, k2, kx⟩
  · have hx4 : ((W2.setCell ⟨w1.heap.size, 3, none⟩ (.string (hh.extract 0 m.toNat))).setCell ⟨w1.heap.size, 4, none⟩ (.string ⟨#[]⟩)).heap[w1.heap.size]? = some (boxR x) := by
      rw [kx]
      exact set3of8 hx2 (.string (hh.extract 0 m.toNat)) (.string ⟨#[]⟩)
    have hd4 := (hset 3 (.string (hh.extract 0 m.toNat))).set (show w.heap.size + 1 < w1.heap.size from hlt) 4 (.string ⟨#[]⟩)
    clear kx
    have kd : decide (m < (hh.size : Int)) = true := decide_eq_true k1
    have kle : m ≤ (hh.size : Int) := by omega
    go_upto_region 12 with fail
    obtain ⟨W4, hW4⟩ : ∃ W4, W4 = (W2.setCell ⟨w1.heap.size, 3, none⟩ (.string (hh.extract 0 m.toNat))).setCell ⟨w1.heap.size, 4, none⟩ (.string ⟨#[]⟩) := ⟨_, rfl⟩
    rw [← hW4] at hd4 hx4 ⊢
    clear hW4 t1 t2 t3 t4 hfz hset hd2 hx2 dh ds h2
    have h5 := hd4.d
    go_wp2_with (first | (refine Whole.load W4 rfl _ 31 rfl _ _ _ rfl h5 Try.underlying31 rfl szR ?_) | (refine Whole.load W4 rfl _ 31 rfl _ _ _ rfl hx4 Try.underlying31 rfl szR ?_))
    refine (HB.out _).mono ?_
    rintro e w5 ⟨rfl, hw5⟩
    have hd5 := hd4.more hw5
    obtain ⟨hE, hB⟩ := hd5.back z
    have h2 := hd5.r
    go_wp2_with (refine Whole.store w5 rfl rfl _ _ 31 rfl (w.heap.size + 1) _ (cellsD z) rfl rfl h2 szR rfl (one_cells z) ?_)
    refine bodyPost_ret (v := retD (z, k)) (result_pairR rfl _ _ z k rfl hE rfl) rfl ⟨rfl, hB⟩
  · have hx4 : (W2.setCell ⟨w1.heap.size, 4, none⟩ (.string (ss.extract 0 (m - hh.size).toNat))).heap[w1.heap.size]? = some (boxR x) := by
      obtain ⟨cc, hcc⟩ : ∃ cc, ss.extract 0 (m - hh.size).toNat = cc := ⟨_, rfl⟩
      rw [hcc] at kx ⊢
      rw [kx, ← hhe]
      exact set_at4 hx2 (.string cc)
    have hd4 := hset 4 (.string (ss.extract 0 (m - hh.size).toNat))
    have kt : (m - (hh.size : Int)).toNat = m.toNat - hh.size := by omega
    rw [kt] at hx4 hd4
    clear kt
    clear kx
    have kd : decide (m < (hh.size : Int)) = false := decide_eq_false (by omega)
    have kn : ¬ m < (hh.size : Int) := by omega
    have kd2 : decide (m - (hh.size : Int) < (ss.size : Int)) = true := decide_eq_true (by omega)
    have kle : m - (hh.size : Int) ≤ (ss.size : Int) := by omega
    have k0 : 0 ≤ m - (hh.size : Int) := by omega
    have kw : IntKind.i64.wrap (m - (hh.size : Int)) = m - (hh.size : Int) := by rw [IntKind.wrap_i64]; omega
    go_upto_region 12 with fail
    obtain ⟨W4, hW4⟩ : ∃ W4, W4 = W2.setCell ⟨w1.heap.size, 4, none⟩ (.string (ss.extract 0 (m.toNat - hh.size))) := ⟨_, rfl⟩
    rw [← hW4] at hd4 hx4 ⊢
    clear hW4 t1 t2 t3 t4 hfz hset hd2 hx2 dh ds h2
    have h5 := hd4.d
    go_wp2_with (first | (refine Whole.load W4 rfl _ 31 rfl _ _ _ rfl h5 Try.underlying31 rfl szR ?_) | (refine Whole.load W4 rfl _ 31 rfl _ _ _ rfl hx4 Try.underlying31 rfl szR ?_))
    refine (HB.out _).mono ?_
    rintro e w5 ⟨rfl, hw5⟩
    have hd5 := hd4.more hw5
    obtain ⟨hE, hB⟩ := hd5.back z
    have h2 := hd5.r
    go_wp2_with (refine Whole.store w5 rfl rfl _ _ 31 rfl (w.heap.size + 1) _ (cellsD z) rfl rfl h2 szR rfl (one_cells z) ?_)
    refine bodyPost_ret (v := retD (z, k)) (result_pairR rfl _ _ z k rfl hE rfl) rfl ⟨rfl, hB⟩
  · have hx4 : W2.heap[w1.heap.size]? = some (boxR x) := by
      rw [kx]
      exact hx2
    clear kx
    have kd : decide (m < (hh.size : Int)) = false := decide_eq_false (by omega)
    have kn : ¬ m < (hh.size : Int) := by omega
    have kd2 : decide (m - (hh.size : Int) < (ss.size : Int)) = false := decide_eq_false (by omega)
    have kn2 : ¬ m - (hh.size : Int) < (ss.size : Int) := by omega
    have kw : IntKind.i64.wrap (m - (hh.size : Int)) = m - (hh.size : Int) := by rw [IntKind.wrap_i64]; omega
    go_upto_region 12 with fail
    clear t1 t2 t3 t4 hfz hset hx2 dh ds
    go_wp2_with (first | (refine Whole.load W2 rfl _ 31 rfl _ _ _ rfl h2 Try.underlying31 rfl szR ?_) | (refine Whole.load W2 rfl _ 31 rfl _ _ _ rfl hx4 Try.underlying31 rfl szR ?_))
    refine (HB.out _).mono ?_
    rintro e w5 ⟨rfl, hw5⟩
    have hd5 := hd2.more hw5
    obtain ⟨hE, hB⟩ := hd5.back z
    have h2 := hd5.r
    go_wp2_with (refine Whole.store w5 rfl rfl _ _ 31 rfl (w.heap.size + 1) _ (cellsD z) rfl rfl h2 szR rfl (one_cells z) ?_)
    refine bodyPost_ret (v := retD (z, k)) (result_pairR rfl _ _ z k rfl hE rfl) rfl ⟨rfl, hB⟩
theorem write_ref (v : Dk) (hv : v.Fair) (f : Int) (s : ByteArray) (hs : used v + s.size ≤ 4611686018427387904) (w : World) : Calls Try.prog 11 #[valD v, .int .i64 f, .string s] w fun e w' => e = .returned (retD (write v f s)) ∧ Below w.heap.size w w' := by
  by_cases hr : refused v f = 0
  · rcases refused_file hr with rfl | rfl
    · exact write_ref0 v hv s hr hs w
    · exact write_ref1 v hv s hr hs w
  · rw [show write v f s = (v, refused v f) by unfold write; rw [if_neg hr]]
    exact write_refno v f s hr w
theorem sync_ref (v : Dk) (hv : v.Fair) (f : Int) (hs : used v ≤ 4611686018427387904) (w : World) : Calls Try.prog 13 #[valD v, .int .i64 f] w fun e w' => e = .returned (retD (sync v f)) ∧ Below w.heap.size w w' := by
  by_cases hr : refused v f = 0
  · rcases refused_file hr with rfl | rfl
    · exact sync_ref0 v hv hr hs w
    · exact sync_ref1 v hv hr hs w
  · rw [show sync v f = (v, refused v f) by unfold sync; rw [if_neg hr]]
    exact sync_refno v f hr w
theorem cut_ref (v : Dk) (hv : v.Fair) (f n : Int) (hn : n ≤ 9223372036854775807) (hs : used v ≤ 4611686018427387904) (w : World) : Calls Try.prog 15 #[valD v, .int .i64 f, .int .i64 n] w fun e w' => e = .returned (retD (cut v f n)) ∧ Below w.heap.size w w' := by
  by_cases hr : refused v f = 0
  · have hm : ∃ m, ((n < 0 ∧ m = 0) ∨ (0 ≤ n ∧ m = n)) ∧ cut v f n = cut v f m := by
      by_cases h : n < 0
      · exact ⟨0, .inl ⟨h, rfl⟩, by rw [cut_form v f n hr, cut_form v f 0 hr, head_neg _ h]⟩
      · exact ⟨n, .inr ⟨by omega, rfl⟩, rfl⟩
    obtain ⟨m, hm, he⟩ := hm
    rw [he]
    rcases refused_file hr with rfl | rfl
    · exact cut_ref0 v hv n m hn hm hr hs w
    · exact cut_ref1 v hv n m hn hm hr hs w
  · rw [show cut v f n = (v, refused v f) by unfold cut; rw [if_neg hr]]
    exact cut_refno v f n hr w
end Go.Proofs.Ytoomanlonhnleaa.Disk
